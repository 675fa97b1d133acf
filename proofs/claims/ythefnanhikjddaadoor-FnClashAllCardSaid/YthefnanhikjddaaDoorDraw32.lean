/- The laws' drawer of tellings that often clash. -/
import Derived.Test.YthefnanhikjddaaDoorDraw31
import Derived.Test.YthefnanhikjddaaDoorCC
import Derived.Deep.RegionHeldLaw
namespace Go.Proofs.YthefnanhikjddaaDoor
open Go.ChangeShapes Go.WideShapes Go.ChangeAt Go.RowKit

theorem RdAt.set32 {w : World} {R n c p q : Nat} {A : Option Addr} (h : RdAt w R A n c p) : RdAt (w.setCell ⟨R, 1, none⟩ (.int .i64 (q : Int))) R A n c q := by
  have h' : w.heap[R]? = some (.cells #[.slice A n c, .int .i64 (p : Int)] 64 (0, 0)) := h
  exact heap_setCell_same w R 1 _ _ _ h'

set_option maxRecDepth 10000 in
set_option maxHeartbeats 2000000 in
theorem drawTClash_any (n c H : Nat) (A : Option Addr) (w : World) (hb : Byt w H A n) (hH : H ≤ w.heap.size) (hnc : n ≤ c) (hc : c ≤ 9223372036854775807) :
    Calls Tryd.prog 11 #[.slice A n c] w (TelX w) := by
  have HT := Lib.hid (telling91_any n c H A w hb hH hnc hc)
  have HBY := Lib.hid hb
  clear hb
  go_enter Tryd.func11, Tryd.ntmps11
  go_wp2_with fail
  refine HT.out.mono ?_
  rintro e w1 ⟨m, v, L, rfl, hm, hg, ⟨hl, hL⟩, hb1⟩
  obtain ⟨A1, c1, rfl, hlc, hcm⟩ := hg.slice
  obtain ⟨z, hz⟩ : ∃ z, z = L.length := ⟨_, rfl⟩
  rw [← hz] at hg hlc hl ⊢
  have HZ := Lib.hid hz
  have HG1 := Lib.hid hg
  have HB1 := Lib.hid hb1
  have HLT := Lib.hid hL
  have HO2 := Lib.hid (openS_any n c H A w1 (HBY.out.below (hb1.mono hH)) (Nat.le_trans hH hb1.size) hnc hc)
  have hH1 : H ≤ w1.heap.size := Nat.le_trans hH hb1.size
  have hRw : w.heap.size ≤ w1.heap.size := hb1.size
  clear hg hb1 hL hz HT
  go_wp2_with fail
  refine HO2.out.mono ?_
  rintro e w4 ⟨rfl, ⟨n4, hn4, h3, h4⟩, hb4⟩
  have hlt4 := h3.lt
  have hs4 := hb4.size
  have hc1 := h3.c1
  have hf1 := h3.frozen 1
  obtain ⟨W5, hW5⟩ : ∃ W, W = w4.setCell ⟨w1.heap.size, 1, none⟩ (.int .i64 61) := ⟨_, rfl⟩
  have H5 : Hid (RdAt W5 w1.heap.size A n4 c 61) := by rw [hW5]; exact h3.set32 (q := 61)
  have hb5 : Below w1.heap.size w1 W5 := by rw [hW5]; exact hb4.setCell (by simp) _
  have HY5 := Lib.hid (h4.below (w' := W5) (by rw [hW5]; exact (Below.refl H w4).setCell (by simp; omega) _))
  have HS5 := Lib.hid hb5
  have HFIN : Hid (∀ w' , W5.grownBy w' (some w1.heap.size) → GrowS w' w.heap.size (.slice A1 z c1) L ∧ Below w.heap.size w w') := Lib.hid (fun w' hg => by
    have hq : Below w1.heap.size w1 w' := HS5.out.grown hg HS5.out.size (fun k hk => by injection hk; omega)
    exact ⟨HG1.out.keep fun k _ hk => hq.block k hk, HB1.out.trans (hq.mono hRw)⟩)
  have HRF : Hid (W5.grownBy W5 (some w1.heap.size)) := ⟨rfl, rfl, rfl, Nat.le_refl _, fun _ _ _ => rfl⟩
  clear h3 h4 hb4 hb5 HO2 HG1 HB1
  rcases Nat.eq_zero_or_pos z with h0 | h0
  · subst h0
    clear H5 HY5
    go_wp2
    rw [← hW5]
    go_ret2
    obtain ⟨x1, x2⟩ := HFIN.out _ HRF.out
    exact telX_of (b := 7) (by omega) ⟨m, _, L, rfl, hm, x1, ⟨by have := HZ.out; omega, HLT.out⟩, x2⟩
  obtain ⟨z', rfl⟩ : ∃ z', z = z' + 1 := ⟨z - 1, by omega⟩
  have HPK := Lib.hid (pick_any w1.heap.size n4 c H 61 2 A W5 H5.out HY5.out hH1 (by omega) hn4 (by omega) (by omega))
  clear H5 h0
  go_wp2_with fail
  rw [← hW5]
  refine HPK.out.mono ?_
  rintro e w6 ⟨⟨k, hk, rfl⟩, hr6, hg6, hz6⟩
  clear hz6
  have HG6 := Lib.hid hg6
  by_cases hk0 : k = 0
  rotate_left
  · have hkn : ((k : Int) == 0) = false := by simp; omega
    clear hr6 hg6 HPK hk0
    go_wp2
    go_ret2
    obtain ⟨x1, x2⟩ := HFIN.out _ HG6.out
    have HZ' := HZ.out
    exact telX_of (b := 7) (by omega) ⟨m, _, L, rfl, hm, x1, ⟨by omega, HLT.out⟩, x2⟩
  subst hk0
  have HP2 := Lib.hid (pick_any w1.heap.size n4 c H 62 (z' + 1) A w6 hr6 (HY5.out.grown hg6 hH1) hH1 (by omega) hn4 (by omega) (by omega))
  clear hr6 hg6 HPK
  go_wp2_with fail
  refine HP2.out.mono ?_
  rintro e w7 ⟨⟨j, hj, rfl⟩, hr7, hg7, hz7⟩
  obtain ⟨x1, x2⟩ := HFIN.out _ (grown_trans HG6.out hg7)
  have HB7 := Lib.hid x2
  have hs7 := x2.size
  have hjl : j < L.length := by have := HZ.out; omega
  obtain ⟨b, cb, Aj, cj, eb, hcj, hrv⟩ := x1.row hjl
  injection eb with eb1 eb2 eb3
  subst eb1
  have hthr := HLT.out _ (rowK_mem hjl)
  obtain ⟨x, y, q, e, hx, hy, hq⟩ := hthr
  rw [e] at hcj hrv
  obtain ⟨b', o', rfl, hbH, d0, d1, d2⟩ := rd3 hrv.1.rd.2
  obtain ⟨xs, hx1, hx2⟩ := x1
  have hap := hrv.1.apart hx1 b' rfl
  have HX1 := Lib.hid hx1
  have HX2 := Lib.hid hx2
  clear hr7 hg7 hz7 HP2 HG6 HFIN HRF HY5 HS5 hrv x2 hx1 hx2 e hW5 hc1 hf1 eb2 eb3 hjl
  have hcj' : w7.cell? ⟨b, j, none⟩ = some (.slice (some ⟨b', o', none⟩) 3 cj) := hcj
  have HAP := Lib.hid hap
  clear hap
  have HK := Lib.hid (fun (W : World) (hW : Below w7.heap.size w7 W) => (⟨(hW.cell (p := ⟨b', o', none⟩) hbH).trans d0, (hW.cell (p := ⟨b', o' + 1, none⟩) hbH).trans d1, (hW.cell (p := ⟨b', o' + 2, none⟩) hbH).trans d2⟩ :
    W.cell? ⟨b', o', none⟩ = some (.int .i64 (x : Int)) ∧ W.cell? ⟨b', o' + 1, none⟩ = some (.int .i64 (y : Int)) ∧ W.cell? ⟨b', o' + 2, none⟩ = some (.int .i64 (q : Int))))
  have HKA := Lib.hid (fun (V W : World) (hV : Below w7.heap.size w7 V) (hg : V.grownBy W (Value.slice (some ⟨b, 0, none⟩) L.length c1).ownBlock) => by
    have hk : W.heap[b']? = w7.heap[b']? := (hg.block b' (Nat.lt_of_lt_of_le hbH hV.size) HAP.out).trans (hV.block b' hbH)
    exact (⟨(World.cell?_of_block hk).trans d0, (World.cell?_of_block hk).trans d1, (World.cell?_of_block hk).trans d2⟩ :
      W.cell? ⟨b', o', none⟩ = some (.int .i64 (x : Int)) ∧ W.cell? ⟨b', o' + 1, none⟩ = some (.int .i64 (y : Int)) ∧ W.cell? ⟨b', o' + 2, none⟩ = some (.int .i64 (q : Int))))
  clear hcj d0 d1 d2
  have hzl : L.length = z' + 1 := HZ.out.symm
  have HZL := Lib.hid hzl
  rw [hzl] at HX1
  clear hzl
  go_wp2
  clear hcj'
  go_region_held_law (fun W => W.cell? ⟨b', o', none⟩ = some (.int .i64 (x : Int)) ∧ W.cell? ⟨b', o' + 1, none⟩ = some (.int .i64 (y : Int)) ∧ W.cell? ⟨b', o' + 2, none⟩ = some (.int .i64 (q : Int)))
    (first
      | exact HK.out _ (Below.refl _ _).drew
      | exact HK.out _ ((Below.refl _ _).drew.alloc (by simp) _)
      | exact HK.out _ (((Below.refl _ _).drew.alloc (by simp) _).alloc (by simp) _)
      | exact HK5.out)
    (first
      | (refine step_append1 _ rfl (.tmp 33) (.tmp 44) rfl w.heap.size ?v (z' + 1) xs ?hs (w7.heap.size + 1) (.slice (some ⟨w7.heap.size, 0, none⟩) 3 3) ?hx ?hown ?hu ?h1 ?h63 ?hB ?nx; (case hs => (simp [Act.eval]; rfl)); (case hx => simp [Act.eval]); (case hown => exact (HX1.out.alloc _).alloc _); (case hu => first | (simp; done) | (go_simp; done)); (case h1 => rfl); (case h63 => omega); (case hB => (simp; omega)); (intro v' w5 hown5 hgr5; have HK5 := Lib.hid (HKA.out _ w5 (((Below.refl _ _).drew.alloc (by simp) _).alloc (by simp) _) hgr5.out))))
  have HG5 := Lib.hid (grow_lit HZL.out HX1.out HX2.out (by omega) [(y : Int), (x : Int), (q : Int)] (by simp) _ hown5.out (grown_undrew hgr5.out))
  have HB5 : Hid (Below w.heap.size w w5) := HB7.out.trans (((((Below.refl w.heap.size w7).drew.alloc (by simp; omega) _).alloc (by simp; omega) _)).grown hgr5.out (by simp; omega) (fun i hi => (HX1.out.lt i hi).1))
  clear hown5 hgr5
  obtain ⟨M, hM⟩ : ∃ M, M = L ++ [[(y : Int), (x : Int), (q : Int)]] := ⟨_, rfl⟩
  rw [← hM] at HG5
  have HM : Hid (M.length ≤ 9 ∧ ∀ t ∈ M, ThrD 6 t) := by
    rw [hM]
    exact ⟨by rw [List.length_append, HZL.out, List.length_singleton]; omega, fun t ht => by
      rcases List.mem_append.1 ht with ht | ht
      · exact HLT.out t ht
      · rw [List.mem_singleton.1 ht]; exact ⟨y, x, q, rfl, hy, hx, hq⟩⟩
  clear hM
  obtain ⟨A8, c8, rfl, hlc8, hcm8⟩ := HG5.out.slice
  go_wp2
  go_ret2
  exact telX_of (b := 9) (by omega) ⟨m, _, M, rfl, hm, HG5.out, HM.out, HB5.out⟩
end Go.Proofs.YthefnanhikjddaaDoor
