/- A script of one line that tells a tidying. -/
import Derived.Test.YtehadbpbkenccaaGreatDoorExT
import Derived.Test.YtehadbpbkenccaaGreatDoorExB
namespace Go.Proofs.YtehadbpbkenccaaGreatDoor
open Go.ChangeShapes Go.WideShapes Go.ChangeAt Go.RowKit

/-- The bench of the beginning: five points, nothing done. -/
def benchW (w : World) : World := ((w.alloc (.cells #[.int .i64 0, .int .i64 1, .int .i64 2, .int .i64 3, .int .i64 4] 3)).alloc (.cells #[.slice (some ⟨w.heap.size, 0, none⟩) 5 5, .slice (some ⟨w.heap.size, 0, none⟩) 5 5] 44)).alloc (.map (wordsE 39) 39)
theorem bench_words (w : World) : Calls Tryz.prog 13 #[] ((w.alloc (.cells #[.int .i64 0, .int .i64 1, .int .i64 2, .int .i64 3, .int .i64 4] 3)).alloc (.cells #[.slice (some ⟨w.heap.size, 0, none⟩) 5 5, .slice (some ⟨w.heap.size, 0, none⟩) 5 5] 44)) fun e w' => e = .returned (.map (some (w.heap.size + 2))) ∧ w' = benchW w := by
  refine (words_any _).mono ?_
  rintro e w' ⟨rfl, rfl⟩
  refine ⟨?_, rfl⟩
  simp [go_sem]

set_option maxRecDepth 10000 in
set_option maxHeartbeats 2000000 in
theorem exec_tidy (s o : ByteArray) (w : World) (hM : Mxl w) (h10 : (10 : UInt8) ∉ s.data.toList) (hs : s.size ≤ 500) (ho : o.size ≤ 900000)
    (HL : ∀ (p : Addr) (W : World), Below w.heap.size w W → Calls Tryz.prog 67 #[.agg #[.pointer (some p), .string s]] W fun e w' => e = .returned (.string o) ∧ Below W.heap.size W w') :
    Calls Tryz.prog 7 #[.string ⟨([116, 105, 100, 121] ++ 32 :: s.data.toList ++ [10]).toArray⟩] w fun e w' => e = .returned (.string ⟨(o.data.toList ++ [10, 112, 111, 105, 110, 116, 115, 32, 53, 10]).toArray⟩) ∧ Below w.heap.size w w' := by
  have hsz : (⟨([116, 105, 100, 121] ++ 32 :: s.data.toList ++ [10]).toArray⟩ : ByteArray).size = s.size + 6 := by
    have : s.data.toList.length = s.size := rfl
    show (([116, 105, 100, 121] ++ 32 :: s.data.toList ++ [10]).toArray).size = _
    simp
  obtain ⟨y, hy⟩ : ∃ y : ByteArray, y = ⟨([116, 105, 100, 121] ++ 32 :: s.data.toList).toArray⟩ := ⟨_, rfl⟩
  obtain ⟨x, hx⟩ : ∃ x : ByteArray, x = ⟨([116, 105, 100, 121] ++ 32 :: s.data.toList ++ [10]).toArray⟩ := ⟨_, rfl⟩
  have hpc := script_pieces x [[116, 105, 100, 121] ++ 32 :: s.data.toList] (by simpa using h10) (by rw [hx]; simp [script])
  rw [← hx] at hsz ⊢
  clear hx
  have hSp : ∀ W, Mxl W → Calls Tryz.prog 14 #[.string x, .string ⟨#[10]⟩] W fun e w' => e = .returned (.slice (some ⟨W.heap.size, 0, none⟩) 2 2) ∧ w' = W.alloc (.cells #[.string y, .string ⟨#[]⟩] 9) := by
    intro W hMW
    have c := split_mx x ⟨#[10]⟩ W (by omega) hMW (by decide)
    rw [hpc.1] at c
    have e2 := hpc.2
    simp only [List.length_singleton] at c e2
    rw [e2] at c
    rw [hy]
    exact c
  clear hpc
  have hle : ¬ (600 : Int) < x.size := by omega
  have HSp := Lib.hid hSp
  clear hSp
  have hBW := Lib.hid (bench_words w)
  have hbw : Below w.heap.size w (benchW w) := by
    refine Below.alloc (Below.alloc (Below.alloc (Below.refl _ _) (Nat.le_refl _) _) ?_ _) ?_ _ <;> simp <;> omega
  have hszW : (benchW w).heap.size = w.heap.size + 3 := by simp [benchW]
  have hcA : (benchW w).cell? ⟨w.heap.size + 1, 0, none⟩ = some (.slice (some ⟨w.heap.size, 0, none⟩) 5 5) := by simp [benchW, go_sem]
  have hmp : (benchW w).heap[w.heap.size + 2]? = some (.map (wordsE 39) 39) := by
    unfold benchW
    have := heap_alloc_new ((w.alloc (.cells #[.int .i64 0, .int .i64 1, .int .i64 2, .int .i64 3, .int .i64 4] 3)).alloc (.cells #[.slice (some ⟨w.heap.size, 0, none⟩) 5 5, .slice (some ⟨w.heap.size, 0, none⟩) 5 5] 44)) (.map (wordsE 39) 39)
    simpa using this
  obtain ⟨w1, hw1⟩ : ∃ w1, w1 = benchW w := ⟨_, rfl⟩
  rw [← hw1] at hBW hbw hszW hcA hmp
  clear hw1
  have hM1 := hM.on hbw
  have hRun : ∀ W, Below w1.heap.size w1 W → Calls Tryz.prog 16 #[.pointer (some ⟨w.heap.size + 1, 0, none⟩), .map (some (w.heap.size + 2)), .string y] W fun e w' => e = .returned (.string o) ∧ Below W.heap.size W w' := by
    intro W hb
    rw [hy]
    exact run_tidy ⟨w.heap.size + 1, 0, none⟩ (w.heap.size + 2) 34 [116, 105, 100, 121] s o W (by decide) (by simp; omega) (hM1.on hb) ((hb.block _ (by omega)).trans hmp) (by kernel_rfl)
      (fun W' hb' => HL _ W' ((hbw.trans (hb.mono (by omega))).trans (hb'.mono (by have := hb.size; omega))))
  have HB1 := Lib.hid hbw
  have HR := Lib.hid hRun
  have HA := Lib.hid hcA
  clear hbw hmp hcA hM HL hRun hy
  go_enter Tryz.func7, Tryz.ntmps7
  go_wp2_with (first
    | (go_at_call 13; refine hBW.out.mono ?_; rintro e w1 ⟨rfl, rfl⟩; clear hBW)
    | (go_at_call 14; refine (HSp.out _ hM1).mono ?_; rintro e w2 ⟨rfl, rfl⟩; clear HSp))
  have HW3 := Lib.hid (((Below.refl w1.heap.size w1).alloc (Nat.le_refl _) (.cells #[.string y, .string ⟨#[]⟩] 9)).alloc (by simp) (.cells #[.pointer none, .slice none 0 0] 51))
  have HD3 := Lib.hid (bld_new (w1.alloc (.cells #[.string y, .string ⟨#[]⟩] 9)))
  have hc3 : ((w1.alloc (.cells #[.string y, .string ⟨#[]⟩] 9)).alloc (.cells #[.pointer none, .slice none 0 0] 51)).cell? ⟨w.heap.size + 3, 0, none⟩ = some (.string y) := by rw [← hszW]; simp [go_sem]
  have hs3 : w1.heap.size + 2 ≤ ((w1.alloc (.cells #[.string y, .string ⟨#[]⟩] 9)).alloc (.cells #[.pointer none, .slice none 0 0] 51)).heap.size := by simp
  have e4 : (w1.alloc (.cells #[.string y, .string ⟨#[]⟩] 9)).heap.size = w.heap.size + 3 + 1 := by simp [hszW]
  rw [e4] at HD3
  clear e4
  generalize ((w1.alloc (.cells #[.string y, .string ⟨#[]⟩] 9)).alloc (.cells #[.pointer none, .slice none 0 0] 51)) = W3 at *
  refine wp_loop_rounds 2 ?_
  rw [rounds_succ]
  go_wp2_with (first
    | (go_at_call 16
       refine (HR.out _ HW3.out).mono ?_
       rintro e W4 ⟨rfl, hb⟩
       have HD4 := Lib.hid (HD3.out.below hb)
       have HW4 := Lib.hid (HW3.out.trans (hb.mono (by omega)))
       clear hb HD3 HW3)
    | (go_at_call 15
       have hl0 : ([] : List UInt8).length + (o ++ ⟨#[10]⟩ : ByteArray).size ≤ 1000000 := by
         have h1 : (⟨#[10]⟩ : ByteArray).size = 1 := rfl
         rw [ByteArray.size_append, h1]
         show 0 + _ ≤ _
         omega
       have hdq : (o ++ ⟨#[10]⟩ : ByteArray).data.toList = o.data.toList ++ [10] := by simp
       generalize (o ++ ⟨#[10]⟩ : ByteArray) = q at *
       refine (wstr_any (w.heap.size + 3 + 1) [] q W4 HD4.out hl0).mono ?_
       rw [hdq]
       rintro e W5 ⟨⟨v5, rfl⟩, hD5, hb⟩
       have HD5 := Lib.hid hD5
       have HW5 := Lib.hid (HW4.out.trans (hb.mono (by omega)))
       have hA5 : W5.cell? ⟨w.heap.size + 1, 0, none⟩ = some (.slice (some ⟨w.heap.size, 0, none⟩) 5 5) := (HW5.out.cell (by show w.heap.size + 1 < _; omega)).trans HA.out
       clear hb HD4 HW4 hD5 HR HA hl0 hdq))
  rw [rounds_succ]
  go_wp2_with (first
    | (go_at_call 17
       refine (itoa_five _).mono ?_
       rintro e W6 ⟨rfl, rfl⟩)
    | (go_at_call 15
       have hl0 : (([] : List UInt8) ++ (o.data.toList ++ [10])).length + ((⟨#[112, 111, 105, 110, 116, 115, 32]⟩ ++ ⟨#[53]⟩ ++ ⟨#[10]⟩ : ByteArray)).size ≤ 1000000 := by
         have h1 : ((⟨#[112, 111, 105, 110, 116, 115, 32]⟩ ++ ⟨#[53]⟩ ++ ⟨#[10]⟩ : ByteArray)).size = 9 := by decide +kernel
         have h2 : o.data.toList.length = o.size := rfl
         rw [h1]
         simp only [List.nil_append, List.length_append, List.length_singleton]
         omega
       have hdq : ((⟨#[112, 111, 105, 110, 116, 115, 32]⟩ ++ ⟨#[53]⟩ ++ ⟨#[10]⟩ : ByteArray)).data.toList = [112, 111, 105, 110, 116, 115, 32, 53, 10] := by decide +kernel
       generalize ((⟨#[112, 111, 105, 110, 116, 115, 32]⟩ ++ ⟨#[53]⟩ ++ ⟨#[10]⟩ : ByteArray)) = q at *
       refine (wstr_any (w.heap.size + 3 + 1) _ q W6 HD5.out hl0).mono ?_
       rw [hdq]
       rintro e W7 ⟨⟨v7, rfl⟩, hD7, hb⟩
       have HD7 := Lib.hid hD7
       have HW7 := Lib.hid (HW5.out.trans (hb.mono (by omega)))
       clear hb HD5 HW5 hD7 hl0 hdq)
    | (go_at_call 18
       refine (str_any (w.heap.size + 3 + 1) _ W7 HD7.out (by simp)).mono ?_
       rintro e W8 ⟨rfl, hb⟩
       have HW8 := Lib.hid (HW7.out.trans (hb.mono (by omega)))
       clear hb HD7 HW7))
  go_ret
  have hfin := HB1.out.trans (HW8.out.mono (by omega))
  exact ⟨by simp, hfin⟩
end Go.Proofs.YtehadbpbkenccaaGreatDoor
