/- Chords cross as often round the other way: the law FnChords. -/
import Derived.Test.YtamnacgclhaggaaDraw44
import Derived.Test.YtamnacgclhaggaaLawCh
namespace Go.Proofs.Ytamnacgclhaggaa
open Go.ChangeShapes Go.WideShapes Go.ChangeAt Go.RowKit

set_option maxRecDepth 10000 in
set_option maxHeartbeats 4000000 in
theorem law_Chords (a0 : Option Addr) (len0 cap0 : Nat) (z0 : List Int) (w : World) (w0 : IsRow .u8 w a0 len0 cap0 z0) :
    Calls Try.prog 9 #[.slice a0 len0 cap0] w fun e w' => e = .returned (.bool true) ∧ Below w.heap.size w w' := by
  obtain ⟨h, hlc, hcm⟩ := byt_of_row w0
  have HD := Lib.hid (drawPairChords_any len0 cap0 w.heap.size a0 w h (Nat.le_refl _) hlc hcm)
  clear w0 h
  by_cases hn : len0 ≤ 1048576
  rotate_left
  · go_enter Try.func9, Try.ntmps9
    go_wp2_with fail
    go_ret
    exact ⟨rfl, Below.refl _ _⟩
  go_enter Try.func9, Try.ntmps9
  go_wp2_with fail
  refine HD.out.mono ?_
  rintro e w1 ⟨v, l, A2, n2, c2, L, rfl, ⟨A1, n1, c1, rfl, hr1⟩, hr2, hx, hb⟩
  have HB := Lib.hid hb
  have HR1 := Lib.hid hr1
  have HR2 := Lib.hid hr2
  clear hb hr1 hr2 HD
  have HC := Lib.hid (cI_PairChords HR1.out HR2.out)
  go_wp2_with fail
  refine HC.out.mono ?_
  rintro e w2 ⟨rfl, hb⟩
  replace HB := Lib.hid (bl_step HB.out hb)
  replace HR1 := Lib.hid (HR1.out.step hb)
  replace HR2 := Lib.hid (HR2.out.step hb)
  clear hb HC
  have HC := Lib.hid (cS_PairChords HR1.out HR2.out)
  go_wp2_with fail
  refine HC.out.mono ?_
  rintro e w3 ⟨rfl, hb⟩
  replace HB := Lib.hid (bl_step HB.out hb)
  replace HR1 := Lib.hid (HR1.out.step hb)
  replace HR2 := Lib.hid (HR2.out.step hb)
  clear hb HC
  by_cases hk : pcB l L = true
  rotate_left
  · rw [show pcB l L = false by simpa using hk]
    clear hk
    go_wp2
    go_ret
    exact ⟨rfl, HB.out⟩
  rw [hk]
  obtain ⟨o, e0, ho, h8, e1, e2, e3⟩ := chords_told hk
  have hl1 := HR1.out.len
  have hl2 := HR2.out.len
  rw [hl2] at ho h8
  rw [hl1] at e3
  have E1 := Lib.hid e1
  have E2 := Lib.hid e2
  have E3 := Lib.hid e3
  rw [e0]
  clear hk e0 e1 e2 e3 hl1 hl2 hx
  have HC := Lib.hid (cM_RingBack HR1.out)
  rw [E1.out.1, E1.out.2] at HC
  go_wp2_with fail
  refine HC.out.mono ?_
  rintro e w4 ⟨v, rfl, ⟨A5, n5, c5, rfl, hr⟩, hb⟩
  replace HB := Lib.hid (bl_step HB.out hb)
  replace HR1 := Lib.hid (HR1.out.step hb)
  replace HR2 := Lib.hid (HR2.out.step hb)
  have HR5 := Lib.hid hr
  clear hr
  clear hb HC
  have HC := Lib.hid (cI_PairChords HR5.out HR2.out)
  rw [E2.out.1, E2.out.2] at HC
  go_wp2_with fail
  refine HC.out.mono ?_
  rintro e w5 ⟨rfl, hb⟩
  replace HB := Lib.hid (bl_step HB.out hb)
  replace HR1 := Lib.hid (HR1.out.step hb)
  replace HR2 := Lib.hid (HR2.out.step hb)
  clear HR5
  clear hb HC
  have HC := Lib.hid (cI_PairFewest HR2.out (n1 : Int))
  go_wp2_with fail
  refine HC.out.mono ?_
  rintro e w6 ⟨v6, rfl, -, hb⟩
  replace HB := Lib.hid (bl_step HB.out hb)
  clear HR1
  clear HR2
  clear hb HC
  have h3 := E3.out
  clear E1 E2 E3
  generalize feV (n1 : Int) L = mv at *
  generalize feB (n1 : Int) L = fb at *
  obtain rfl | rfl | rfl | rfl | rfl | rfl | rfl | rfl | rfl : n2 = 0 ∨ n2 = 1 ∨ n2 = 2 ∨ n2 = 3 ∨ n2 = 4 ∨ n2 = 5 ∨ n2 = 6 ∨ n2 = 7 ∨ n2 = 8 := by omega
  · obtain rfl : o = 0 := by simp at ho; omega
    clear ho h8
    cases fb
    · clear h3
      go_wp2
      go_ret
      exact ⟨rfl, HB.out⟩
    · have hm : decide (mv ≤ (0 : Int)) = true := by simpa using h3
      clear h3
      go_wp2
      go_ret
      exact ⟨rfl, HB.out⟩
  · obtain rfl : o = 0 := by simp at ho; omega
    clear ho h8
    cases fb
    · clear h3
      go_wp2
      go_ret
      exact ⟨rfl, HB.out⟩
    · have hm : decide (mv ≤ (0 : Int)) = true := by simpa using h3
      clear h3
      go_wp2
      go_ret
      exact ⟨rfl, HB.out⟩
  · have hd : decide ((o : Int) ≤ 1) = true := by simp at ho ⊢; omega
    clear ho h8
    cases fb
    · clear h3
      go_wp2
      go_ret
      exact ⟨rfl, HB.out⟩
    · have hm : decide (mv ≤ (o : Int)) = true := by simpa using h3
      clear h3
      go_wp2
      go_ret
      exact ⟨rfl, HB.out⟩
  · have hd : decide ((o : Int) ≤ 3) = true := by simp at ho ⊢; omega
    clear ho h8
    cases fb
    · clear h3
      go_wp2
      go_ret
      exact ⟨rfl, HB.out⟩
    · have hm : decide (mv ≤ (o : Int)) = true := by simpa using h3
      clear h3
      go_wp2
      go_ret
      exact ⟨rfl, HB.out⟩
  · have hd : decide ((o : Int) ≤ 6) = true := by simp at ho ⊢; omega
    clear ho h8
    cases fb
    · clear h3
      go_wp2
      go_ret
      exact ⟨rfl, HB.out⟩
    · have hm : decide (mv ≤ (o : Int)) = true := by simpa using h3
      clear h3
      go_wp2
      go_ret
      exact ⟨rfl, HB.out⟩
  · have hd : decide ((o : Int) ≤ 10) = true := by simp at ho ⊢; omega
    clear ho h8
    cases fb
    · clear h3
      go_wp2
      go_ret
      exact ⟨rfl, HB.out⟩
    · have hm : decide (mv ≤ (o : Int)) = true := by simpa using h3
      clear h3
      go_wp2
      go_ret
      exact ⟨rfl, HB.out⟩
  · have hd : decide ((o : Int) ≤ 15) = true := by simp at ho ⊢; omega
    clear ho h8
    cases fb
    · clear h3
      go_wp2
      go_ret
      exact ⟨rfl, HB.out⟩
    · have hm : decide (mv ≤ (o : Int)) = true := by simpa using h3
      clear h3
      go_wp2
      go_ret
      exact ⟨rfl, HB.out⟩
  · have hd : decide ((o : Int) ≤ 21) = true := by simp at ho ⊢; omega
    clear ho h8
    cases fb
    · clear h3
      go_wp2
      go_ret
      exact ⟨rfl, HB.out⟩
    · have hm : decide (mv ≤ (o : Int)) = true := by simpa using h3
      clear h3
      go_wp2
      go_ret
      exact ⟨rfl, HB.out⟩
  · have hd : decide ((o : Int) ≤ 28) = true := by simp at ho ⊢; omega
    clear ho h8
    cases fb
    · clear h3
      go_wp2
      go_ret
      exact ⟨rfl, HB.out⟩
    · have hm : decide (mv ≤ (o : Int)) = true := by simpa using h3
      clear h3
      go_wp2
      go_ret
      exact ⟨rfl, HB.out⟩
end Go.Proofs.Ytamnacgclhaggaa
