/- The points behind a word, read by the model. -/
import Derived.Laws.DeepStrings4
import Derived.Laws.Strings3
import Derived.Lib.IndexEntry
import Derived.Test.YtdndddlikdccgaaPdM
import Derived.Test.YtdndddlikdccgaaFold
import Derived.Test.YtdndddlikdccgaaMA
namespace Go.Proofs.Ytdndddlikdccgaa
open Go.ChangeShapes Go.WideShapes Go.ChangeAt Go.RowKit

theorem sl_pre (s : ByteArray) (j : Nat) (hj : j ≤ s.size) (W : World) : (Instr.slice 9 (.string s) none (some (.int .i64 (j : Int))) none).run Try.prog W = .ok (.string (s.extract 0 j)) W := by
  rw [run_slice_string_to_if (h := Try.underlying9), if_pos (by omega)]
  simp
theorem pre_eq (s p : ByteArray) : ((s.extract 0 p.size).toList == p.toList) = Lib.hasPrefix s.data.toList p.data.toList := by
  rw [Lib.toList_data, Lib.toList_data, Lib.extract_data]
  rw [Bool.eq_iff_iff, beq_iff_eq]
  unfold Lib.hasPrefix
  rw [List.isPrefixOf_iff_prefix, List.prefix_iff_eq_take]
  have : p.data.toList.length = p.size := by simp
  rw [this]
  simp
  exact eq_comm
theorem pre_no (s p : ByteArray) (hb : Lib.hasPrefix s.data.toList p.data.toList = false) : ¬ (s.extract 0 p.size).toList = p.toList := fun h => by
  have h2 := pre_eq s p
  rw [hb, h] at h2
  simp at h2
theorem pre_yes (s p : ByteArray) (hb : Lib.hasPrefix s.data.toList p.data.toList = true) : (s.extract 0 p.size).toList = p.toList := by
  have h2 := pre_eq s p
  rw [hb] at h2
  exact beq_iff_eq.1 h2
theorem pre_len {s p : ByteArray} (h : Lib.hasPrefix s.data.toList p.data.toList = true) : p.size ≤ s.size := by
  have := List.IsPrefix.length_le (List.isPrefixOf_iff_prefix.1 h)
  simpa using this

attribute [local go_sem ↓] apI_fold in
set_option maxRecDepth 10000 in
set_option maxHeartbeats 1000000 in
theorem rdpS_any (s p : ByteArray) (w : World) (hs : s.size ≤ 1048576) (hp : p.size ≤ 100) :
    Calls Try.prog 78 #[.string s, .string p] w fun e w' => ∃ v, e = .returned (.tuple #[v, .bool (rdW p.data.toList s.data.toList).isSome]) ∧ Own w' w.heap.size v ((rdW p.data.toList s.data.toList).getD []) ∧ Below w.heap.size w w' := by
  obtain ⟨r, hr⟩ : ∃ r, r = rdW p.data.toList s.data.toList := ⟨_, rfl⟩
  rw [← hr]
  have HR := Lib.hid hr
  clear hr
  have ho0 := Lib.hid (own_empty w _ (Nat.le_refl _))
  have HB0 := Lib.hid ((Below.refl w.heap.size w).alloc (Nat.le_refl _) (.cells #[] 3))
  by_cases hle : p.size ≤ s.size
  rotate_left
  · have e : r = none := by
      rw [HR.out, rdW]
      cases hb : Lib.hasPrefix s.data.toList p.data.toList with
      | false => rfl
      | true => exact absurd (pre_len hb) hle
    subst e
    have hlt : (s.size : Int) < (p.size : Int) := by omega
    clear hle HR
    go_enter Try.func78, Try.ntmps78
    go_wp2
    go_ret2
    exact ⟨_, rfl, ho0.out, HB0.out⟩
  have hnl : ¬ (s.size : Int) < (p.size : Int) := by omega
  have hsl := fun W => sl_pre s p.size hle W
  cases hb : Lib.hasPrefix s.data.toList p.data.toList with
  | false =>
    have hne := pre_no s p hb
    have e : r = none := by rw [HR.out, rdW, hb]; rfl
    subst e
    clear hle HR hb
    go_enter Try.func78, Try.ntmps78
    go_wp2
    go_ret2
    exact ⟨_, rfl, ho0.out, HB0.out⟩
  | true =>
    have hne := pre_yes s p hb
    have e : r = dgs (sx s p.size) := by
      rw [HR.out, rdW, hb]
      have : p.data.toList.length = p.size := by simp
      rw [this]
      rfl
    have HE := Lib.hid e
    clear HR hb e
    obtain ⟨d, hd⟩ : ∃ d, s.size = p.size + d := ⟨s.size - p.size, by omega⟩
    by_cases h2 : d % 2 = 0
    rotate_left
    · have e : r = none := by rw [HE.out]; exact dgs_odd (by rw [sx_len]; omega)
      subst e
      have hd1 : ((s.size : Int) - (p.size : Int)) % 2 = 1 := by omega
      clear hd hle h2 HE
      go_enter Try.func78, Try.ntmps78
      go_wp2
      go_ret2
      exact ⟨_, rfl, ho0.out, HB0.out⟩
    have hd1 : ((s.size : Int) - (p.size : Int)) % 2 = 0 := by omega
    have HD := Lib.hid hd
    clear hd hle
    go_enter Try.func78, Try.ntmps78
    go_wp2
    go_loopw [6, 7] (fun v i wr => ∃ (m : Nat) (acc : List Int), i = .int .i64 m ∧ m ≤ s.size ∧ (s.size - m) % 2 = 0 ∧ acc.length ≤ m ∧ Hid (Own wr w.heap.size v acc) ∧ Hid (Below w.heap.size w wr) ∧ Hid (r = (dgs (sx s m)).map fun l => acc ++ l)) (fun _ i _ => s.size - (intOf i).toNat)
    case atStart =>
      refine ⟨p.size, [], rfl, by have := HD.out; omega, by have := HD.out; omega, Nat.zero_le _, ho0, HB0, ?_⟩
      rw [Hid, HE.out]
      cases dgs (sx s p.size) <;> rfl
    case round =>
      obtain ⟨m, acc, rfl, hms, hm2, hal, hown, hbl, HK⟩ := hrel
      clear ho0 HB0 HE
      by_cases hlt : m < s.size
      · obtain ⟨q, hq⟩ : ∃ q, q = m + 1 := ⟨_, rfl⟩
        have hqR : q < s.size := by omega
        have hw2 : IntKind.i64.wrap ((m : Int) + 1) = (q : Int) := by rw [IntWalk.i64_in _ (by omega)]; omega
        have HQ := Lib.hid hq
        have HBAD := Lib.hid (rd_bad HK.out hlt hqR hq)
        have HYES := Lib.hid (rd_step HK.out hlt hqR hq)
        have HOE := Lib.hid (own_empty wr w.heap.size hbl.out.size)
        have HBE := Lib.hid (hbl.out.alloc hbl.out.size (.cells #[] 3))
        clear hq
        by_cases h32 : s[m].toNat = 32
        rotate_left
        · have e := HBAD.out (fun h => h32 h.1)
          subst e
          have hne32 : ((s[m].toNat : Int) != 32) = true := by simp; omega
          clear HBAD HYES h32
          go_wp2
          go_ret2
          exact ⟨_, rfl, HOE.out, HBE.out⟩
        by_cases h48 : 48 ≤ s[q].toNat
        rotate_left
        · have e := HBAD.out (fun h => h48 h.2.1)
          subst e
          have hlt48 : (s[q].toNat : Int) < 48 := by omega
          clear HBAD HYES h48
          go_wp2
          go_ret2
          exact ⟨_, rfl, HOE.out, HBE.out⟩
        by_cases h57 : s[q].toNat ≤ 57
        rotate_left
        · have e := HBAD.out (fun h => h57 h.2.2)
          subst e
          have hlt57 : (57 : Int) < (s[q].toNat : Int) := by omega
          have hn48 : ¬ (s[q].toNat : Int) < 48 := by omega
          clear HBAD HYES h48 h57
          go_wp2
          go_ret2
          exact ⟨_, rfl, HOE.out, HBE.out⟩
        have HS2 := Lib.hid (HYES.out ⟨h32, h48, h57⟩)
        have hn48 : ¬ (s[q].toNat : Int) < 48 := by omega
        have hn57 : ¬ (57 : Int) < (s[q].toNat : Int) := by omega
        obtain ⟨v', w4, hrun, hown', hgrow⟩ := apI_runL hown.out hbl.out.size (by omega) ((s[q].toNat : Int) - 48)
        have HO4 := Lib.hid hown'
        have HB4 := Lib.hid (apI_below hown.out hgrow (Nat.le_refl _) hbl.out hbl.out.size)
        clear HYES HBAD HOE HBE hown' hgrow
        go_wp2
        go_roundw
        case rel => exact ⟨m + 2, acc ++ [(s[q].toNat : Int) - 48], by go_num, by have := HQ.out; omega, by have := HQ.out; omega, by simp; omega, HO4, HB4, HS2⟩
        case measure => simp [intOf]; omega
      · obtain rfl : m = s.size := by omega
        have e : r = some acc := rd_done HK.out
        subst e
        obtain ⟨A6, c6, ev⟩ := hown.out.slice
        subst ev
        go_wp2
        go_ret2
        exact ⟨_, rfl, hown.out, hbl.out⟩
end Go.Proofs.Ytdndddlikdccgaa
