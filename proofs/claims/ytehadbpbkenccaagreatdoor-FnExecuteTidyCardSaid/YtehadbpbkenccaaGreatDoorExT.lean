/- A line that tells a tidying. -/
import Derived.Test.YtehadbpbkenccaaGreatDoorExR
import Derived.Test.YtehadbpbkenccaaGreatDoorExM
import Derived.Test.YtehadbpbkenccaaGreatDoorTn6
namespace Go.Proofs.YtehadbpbkenccaaGreatDoor
open Go.ChangeShapes Go.WideShapes Go.ChangeAt Go.RowKit

set_option maxHeartbeats 1000000 in
theorem line_tidy (pb : Value) (s : ByteArray) (w : World) (hand : Hand w) (hs : s.size ≤ 1000) (t : Tm) (h : ringT s.data.toList = some t) :
    Calls Tryz.prog 67 #[.agg #[pb, .string s]] w fun e w' => e = .returned (.string (bs (t.tidy false))) ∧ Below w.heap.size w w' := by
  have HB0 := Lib.hid ((Below.refl w.heap.size w).alloc (Nat.le_refl _) (.cells #[pb, .string s] 84))
  have HC := Lib.hid (tidyI_yes s (w.alloc (.cells #[pb, .string s] 84)) (hand.on HB0.out) (by omega) t h)
  obtain ⟨o, ho⟩ : ∃ o, o = bs (t.tidy false) := ⟨_, rfl⟩
  unfold StrQ at HC
  rw [← ho] at HC ⊢
  clear hand h ho
  go_enter Tryz.func67, Tryz.ntmps67
  go_wp2_with (first
    | (go_at_call 5; refine HC.out.mono ?_; rintro e w2 ⟨rfl, hb⟩; have HB2 := Lib.hid (HB0.out.trans (hb.mono HB0.out.size)); clear hb HC HB0)
    | (go_at_call 107; refine (text_yes _ _).mono ?_; rintro e w' ⟨rfl, rfl⟩))
  go_ret
  exact ⟨rfl, HB2.out⟩

attribute [local go_sem ↓] lkS_fold in
set_option maxRecDepth 10000 in
set_option maxHeartbeats 2000000 in
/-- A line of a known word and a rest: its command is run. -/
theorem run_tidy (p : Addr) (gm i : Nat) (a : List UInt8) (r o : ByteArray) (w : World) (h32 : (32 : UInt8) ∉ a) (hs : a.length + r.size ≤ 900000) (hM : Mxl w)
    (hm : w.heap[gm]? = some (.map (wordsE 39) 39)) (hf : Instr.findNow .string (.string ⟨(a ++ [32]).toArray⟩) (wordsE 39).toList 0 = some (some (i, .func (.func 67) #[] #[])))
    (HC : ∀ W, Below w.heap.size w W → Calls Tryz.prog 67 #[.agg #[.pointer (some p), .string r]] W fun e w' => e = .returned (.string o) ∧ Below W.heap.size W w') :
    Calls Tryz.prog 16 #[.pointer (some p), .map (some gm), .string ⟨(a ++ 32 :: r.data.toList).toArray⟩] w fun e w' => e = .returned (.string o) ∧ Below w.heap.size w w' := by
  have hgm : gm < w.heap.size := by
    refine Nat.lt_of_not_le fun hn => ?_
    rw [Array.getElem?_eq_none hn] at hm
    cases hm
  have hsz : (⟨(a ++ 32 :: r.data.toList).toArray⟩ : ByteArray).size ≤ 1000000 := by
    show ((a ++ 32 :: r.data.toList).toArray).size ≤ 1000000
    have : r.data.toList.length = r.size := rfl
    simp
    omega
  obtain ⟨x, hx⟩ : ∃ x : ByteArray, x = ⟨(a ++ 32 :: r.data.toList).toArray⟩ := ⟨_, rfl⟩
  have hcw : Lib.cut x.data.toList [32] = (a, r.data.toList, true) := by rw [hx]; exact cut_word a r.data.toList h32
  rw [← hx] at hsz ⊢
  clear hx
  have hmf : ∀ (fn : Fn) (first cap : Array Value) (w : World), (Instr.makeFunc fn first cap).run Tryz.prog w = .ok (.func fn first cap) w := fun _ _ _ _ => rfl
  have HB0 := Lib.hid ((Below.refl w.heap.size w).alloc (Nat.le_refl _) (.cells #[.string ⟨#[110, 111]⟩] 9))
  have HCut := Lib.hid (fun W (hb : Below w.heap.size w W) => cut_mx x ⟨#[32]⟩ W hsz (hM.on hb))
  have hl0 : ∀ W, Below w.heap.size w W → (lkS 45 (.map (some gm)) (.string ⟨(a ++ [32]).toArray⟩) true).run Tryz.prog W = .ok (.tuple #[.func (.func 67) #[] #[], .bool true]) W := by
    intro W hb
    have h1 : W.heap[gm]? = some (.map (wordsE 39) 39) := (hb.block gm hgm).trans hm
    exact words_get h1 hf
  have HL := Lib.hid hl0
  clear hl0
  have hkey : (⟨a.toArray⟩ : ByteArray) ++ ⟨#[32]⟩ = ⟨(a ++ [32]).toArray⟩ := by
    apply ByteArray.ext
    simp
  have HX := Lib.hid HC
  clear hm hf HC hM
  go_enter_defers Tryz.func16, Tryz.ntmps16
  go_wp2_with (first
    | (go_at_call 75
       refine (HCut.out _ HB0.out).mono ?_
       rintro e w1 ⟨rfl, n, rfl⟩
       have HB2 := Lib.hid (below_drewN HB0.out n)
       have hl := HL.out _ HB2.out
       rw [hcw]
       clear HCut HL HB0)
    | (go_at_call 67
       refine (HX.out _ HB2.out).mono ?_
       rintro e w2 ⟨rfl, hb⟩
       have HB3 := Lib.hid (HB2.out.trans (hb.mono HB2.out.size))
       have hrc : w2.cell? ⟨w.heap.size, 0, none⟩ = some (.string ⟨#[110, 111]⟩) := by
         rw [hb.cell (by simp [World.drewN])]
         simp [go_sem]
       have hrf : w2.frozen? ⟨w.heap.size, 0, none⟩ = false := by
         rw [hb.frozen (by simp [World.drewN])]
         simp [go_sem]
       have hlt : w.heap.size < w2.heap.size := by
         have := hb.size
         simp [World.drewN] at this
         omega
       clear hb HX HB2 hl))
  have HB4 := Lib.hid (HB3.out.setCell (p := ⟨w.heap.size, 0, none⟩) (Nat.le_refl _) (.string o))
  refine leaves_cons (f := 74) (args := #[.pointer (some ⟨w.heap.size, 0, none⟩)]) (by simp) (by simp [go_sem]) ?_
  refine (catch_idle ⟨w.heap.size, 0, none⟩ _).mono ?_
  rintro e u' w4 ⟨rfl, rfl, hb4⟩
  have HB5 := Lib.hid (HB4.out.trans (hb4.mono HB4.out.size))
  have hc4 : w4.cell? ⟨w.heap.size, 0, none⟩ = some (.string o) := by
    rw [hb4.cell (by simpa [World.setCell] using hlt)]
    simp [go_sem, hrc]
  simp [Leaves, settle, results, Tryz.results16, go_sem, hc4]
  exact HB5.out
end Go.Proofs.YtehadbpbkenccaaGreatDoor
