/- A word and points, written: the library's numerals, the model's; the model's words. -/
import Derived.Test.YthefnanhikjddaaDoorPtL
import Derived.Test.YthefnanhikjddaaDoorPdM
import Derived.Test.YthefnanhikjddaaDoorMA
namespace Go.Proofs.YthefnanhikjddaaDoor
open Go.ChangeShapes Go.WideShapes Go.ChangeAt Go.RowKit

theorem itoa_any (i : Nat) (hi : i < 100) (w : World) : Calls Tryd.prog 49 #[.int .i64 i] w fun e w' => e = .returned (.string ⟨(Lib.decDigits i).toArray⟩) ∧ w' = w := Any.strconv_Itoa_small Tryd.lays171 i hi w
theorem dec_one : ∀ i : Nat, i < 10 → Lib.decDigits i = [UInt8.ofNat (48 + i)] := by decide +kernel
theorem itoa_digit (x : Int) (h0 : 0 ≤ x) (h9 : x ≤ 9) (w : World) : Calls Tryd.prog 49 #[.int .i64 x] w fun e w' => e = .returned (.string ⟨#[UInt8.ofNat (48 + x.toNat)]⟩) ∧ w' = w := by
  obtain ⟨i, rfl⟩ : ∃ i : Nat, x = i := ⟨x.toNat, by omega⟩
  have := itoa_any i (by omega) w
  rw [dec_one i (by omega)] at this
  exact this

theorem one_str (c : UInt8) (w : World) : (convert 22 9 (.slice (some ⟨w.heap.size, 0, none⟩) 1 1)).run Tryd.prog (w.alloc (.cells #[.int .u8 (c.toNat : Int)] 5)) = .ok (.string ⟨#[c]⟩) (w.alloc (.cells #[.int .u8 (c.toNat : Int)] 5)) := by
  refine run_convert_bytes_back (P := Tryd.prog) _ 22 9 5 ⟨w.heap.size, 0, none⟩ 1 [c] Tryd.underlying22 Tryd.underlying5 Tryd.underlying9 fun j hj => ?_
  obtain rfl : j = 0 := by simpa using hj
  simp [Addr.add_lit]

set_option maxRecDepth 10000 in
theorem dec6_any (x : Int) (w : World) (h0 : 0 ≤ x) (h9 : x ≤ 9) : Calls Tryd.prog 52 #[.int .i64 x] w fun e w' => e = .returned (.string ⟨#[UInt8.ofNat (48 + x.toNat)]⟩) ∧ Below w.heap.size w w' := by
  have h := one_str (UInt8.ofNat (48 + x.toNat)) w
  have e : ((UInt8.ofNat (48 + x.toNat)).toNat : Int) = 48 + x := by simp; omega
  rw [e] at h
  have hn1 : ¬ x < -9223372036854775807 := by omega
  have hn2 : ¬ x < 0 := by omega
  have hn3 : x < 10 := by omega
  generalize UInt8.ofNat (48 + x.toNat) = c at *
  clear e
  go_enter Tryd.func52, Tryd.ntmps52
  go_wp2
  go_ret
  exact ⟨rfl, (Below.refl _ _).alloc (Nat.le_refl _) _⟩

/-- A word and points as a text. -/
def tld (p : ByteArray) (l : List Int) : ByteArray := ⟨(told p.data.toList l).toArray⟩
theorem tld_nil (p : ByteArray) : tld p [] = p := by
  unfold tld told
  simp
theorem bytes_ext {a b : ByteArray} (h : a.data.toList = b.data.toList) : a = b := by
  obtain ⟨⟨x⟩⟩ := a
  obtain ⟨⟨y⟩⟩ := b
  simpa using h
theorem tld_snoc (p : ByteArray) (l : List Int) (x : Int) : tld p (l ++ [x]) = tld p l ++ (⟨#[32]⟩ ++ ⟨#[UInt8.ofNat (48 + x.toNat)]⟩) := by
  apply bytes_ext
  simp [tld, told_snoc]
theorem tld_snoc2 (p : ByteArray) (l : List Int) (x : Int) : tld p (l ++ [x]) = tld p l ++ ⟨#[32]⟩ ++ ⟨#[UInt8.ofNat (48 + x.toNat)]⟩ := by
  apply bytes_ext
  simp [tld, told_snoc]
theorem tld_size (p : ByteArray) (l : List Int) : (tld p l).size = p.size + 2 * l.length := by
  have h := told_len p.data.toList l
  have e : p.data.toList.length = p.size := by simp
  rw [e] at h
  rw [← h]
  simp [tld, ByteArray.size]

set_option maxRecDepth 10000 in
set_option maxHeartbeats 1000000 in
theorem words_any (p : ByteArray) (A : Option Addr) (c : Nat) (l : List Int) (w : World) (hp : p.size ≤ 100) (hb9 : ∀ x ∈ l, 0 ≤ x ∧ x ≤ 9) (hl : l.length ≤ 1048576) (h : Rd w w.heap.size A l.length l) :
    Calls Tryd.prog 28 #[.string p, .slice A l.length c] w fun e w' => e = .returned (.string (tld p l)) ∧ Below w.heap.size w w' := by
  obtain ⟨n, hn⟩ : ∃ n, n = l.length := ⟨_, rfl⟩
  rw [← hn] at hl h ⊢
  have HN := Lib.hid hn
  have HR := Lib.hid h
  have HB9 := Lib.hid hb9
  clear hn h hb9
  obtain ⟨T, hT⟩ : ∃ T, T = p := ⟨_, rfl⟩
  have HT0 : Hid (p = tld p (l.take 0)) := by rw [Hid, List.take_zero, tld_nil]
  go_enter Tryd.func28, Tryd.ntmps28
  go_wp2
  go_loopw [0, 5] (fun t i wr => ∃ (k : Nat) (T : ByteArray), k ≤ n ∧ t = .string T ∧ i = .int .i64 k ∧ Hid (T = tld p (l.take k)) ∧ Hid (Below w.heap.size w wr)) (fun _ i _ => n - (intOf i).toNat)
  case atStart => exact ⟨0, p, Nat.zero_le _, rfl, rfl, HT0, Lib.hid (Below.refl _ _)⟩
  case round =>
    obtain ⟨k, U, hk, rfl, rfl, hU, hbl⟩ := hrel
    by_cases hlt : k < n
    · have hkl : k < l.length := by rw [← HN.out]; exact hlt
      have hR2 := HR.out.below hbl.out
      obtain ⟨bb, o, rfl, hbB, hcs⟩ := hR2.at_ (by omega)
      have hc := hcs k hlt
      have e : l.getD k 0 = l[k] := by simp [List.getD, hkl]
      have h9 := HB9.out (l.getD k 0) (by rw [e]; exact List.getElem_mem hkl)
      have HS : Hid (U ++ ⟨#[32]⟩ ++ ⟨#[UInt8.ofNat (48 + (l.getD k 0).toNat)]⟩ = tld p (l.take (k + 1))) := by
        rw [Hid, hU.out, ← tld_snoc2, e, List.take_succ_eq_append_getElem hkl]
      have hus : U.size ≤ 3000000 := by
        rw [hU.out, tld_size, List.length_take]
        omega
      have ha1 : ¬ 9223372036854775807 < U.size + 1 := by omega
      have ha2 : ¬ 9223372036854775807 < U.size + 1 + 1 := by omega
      clear hcs hR2 e hU hkl hus
      generalize l.getD k 0 = x at hc h9 HS
      have HD := Lib.hid (fun W => dec6_any x W h9.1 h9.2)
      generalize UInt8.ofNat (48 + x.toNat) = d at *
      go_wp2_with fail
      refine (HD.out _).mono ?_
      rintro e w1 ⟨rfl, hb1⟩
      have HB2 := Lib.hid (hbl.out.trans (hb1.mono hbl.out.size))
      clear hb1
      go_wp2
      go_roundw
      case rel => exact ⟨k + 1, _, by omega, rfl, by go_num, HS, HB2⟩
      case measure => simp [intOf]; omega
    · obtain rfl : k = n := by omega
      have e : U = tld p l := by rw [hU.out, HN.out, List.take_length]
      have HE := Lib.hid e
      clear e hU
      go_wp2
      go_ret
      exact ⟨by rw [← HE.out]; rfl, hbl.out⟩
end Go.Proofs.YthefnanhikjddaaDoor
