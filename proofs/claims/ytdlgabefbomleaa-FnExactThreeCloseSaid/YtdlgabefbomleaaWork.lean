/- The program's closing, told to its end. -/
import Derived.Test.YtdlgabefbomleaaTold
namespace Go.Proofs.Ytdlgabefbomleaa
open Go.ChangeShapes Go.WideShapes Go.ChangeAt Go.RowKit

theorem turned_lit (x y z : Int) (w : World) :
    Calls Try.prog 112 #[.agg (ints [x, y, z]).toArray] w fun e w' => e = .returned (.agg #[.int .i64 y, .int .i64 z, .int .i64 x]) ∧ Below w.heap.size w w' := turned_any x y z w

set_option maxRecDepth 10000 in
set_option maxHeartbeats 4000000 in
theorem tell_any (n mb : Nat) (K0 : List (List Int)) (v : Value) (C : Nat) (L : List (List Int)) (w : World) (hm : MapK w mb K0) (h : RowN w C 52 3 v L) (hL : ∀ t ∈ L, Thr (n : Int) t) (hlen : L.length ≤ 1000) (hn : n ≤ 6) :
    Calls Try.prog 95 #[.map (some mb), .int .i64 (n : Int), v] w fun e w' => e = .returned (.tuple #[]) ∧ (∃ K, MapK w' mb K ∧ ∀ t, t ∈ K ↔ Cl L t) ∧ Below mb w w' := by
  obtain ⟨i0, hi, hz0, hz1, hz2⟩ := info_parts three_info
  obtain ⟨A, c, rfl⟩ := h.slice
  have HM0 := Lib.hid hm
  have hmb := hm.lt
  have hvm : ∀ k, (Value.slice A L.length c).ownBlock = some k → some mb ≠ some k := fun k hk e => by
    rcases h.2.2 with ⟨e0, _⟩ | ⟨g, cap, cur, e0, hB, hg, _⟩
    · rw [e0] at hk; cases hk
    · rw [e0] at hk
      obtain ⟨es, clock, hb, _⟩ := hm
      injection hk with hk
      injection e with e
      have hk' : g = mb := by rw [e]; exact hk
      rw [hk', hb] at hg
      cases hg
  have HV := Lib.hid hvm
  have HR0 := Lib.hid h
  have HL := Lib.hid hL
  clear hm h hvm hL
  go_enter Try.func95, Try.ntmps95
  go_wp2_with (refine clear_op rfl _ rfl mb K0 rfl HM0 ?_; intro w1 HM1 hg1 hs1)
  have HR1 := Lib.hid (HR0.out.grown hg1 HV.out)
  have HB1 : Hid (Below mb w w1) := Lib.hid ((Below.refl mb w).grown hg1 (by omega) (fun k hk => by injection hk; omega))
  clear hg1
  refine (cloneT_any _ C L w1 HR1.out hlen).mono ?_
  rintro e w2 ⟨v2, rfl, hr2, hb2⟩
  have HM2 := Lib.hid (HM1.out.below hb2 (by omega))
  have HB2 := Lib.hid (HB1.out.trans (hb2.mono (by omega)))
  have HR2 := Lib.hid (hr2.less (show mb + 1 ≤ w1.heap.size by omega))
  clear hr2 hb2 HM0 HM1 HR0 HR1 HB1 HV hs1
  go_wp2_with fail
  go_loopg [6] (16 * untold n [] + L.length) (fun q v wr => ∃ W K, Hid (q = 16 * untold n K + W.length) ∧ Hid (16 * untold n K + W.length ≤ 7000) ∧ Hid (RowN wr (mb + 1) 52 3 v W) ∧ Hid (MapK wr mb K) ∧ Hid (Inv3 L K W) ∧ Hid (Below mb w wr))
  case atStart => exact ⟨L, [], Lib.hid rfl, Lib.hid (by have := untold_le n [] (by omega); omega), HR2, HM2, Lib.hid (Inv3.start L), HB2⟩
  case round =>
    obtain ⟨W, K, hq, hqb, hrw, hmk, hinv, hbl⟩ := hrel
    clear HR2 HM2 HB2
    obtain ⟨A2, c2, e⟩ := hrw.out.slice
    subst e
    by_cases hW : W = []
    · subst hW
      have HK := Lib.hid hinv.out.done
      go_wp2
      go_end0
      exact ⟨rfl, ⟨K, hmk.out, HK.out⟩, hbl.out⟩
    · obtain ⟨U, t, e⟩ : ∃ U t, W = U ++ [t] := ⟨W.dropLast, W.getLast hW, (List.dropLast_concat_getLast hW).symm⟩
      subst e
      have hthr := (hinv.out.sound t (.inr (by simp))).thr HL.out
      obtain ⟨a, b, c, e⟩ := of_three hthr.1
      subst e
      have HSM := Lib.hid (thr_sm hthr (by omega))
      have HTH := Lib.hid hthr
      have hrg := (thr3 _ _ _ _).1 hthr
      have hlenW : (U ++ [[a, b, c]]).length = U.length + 1 := by simp
      have HKL : Hid (U.length < (U ++ [[a, b, c]]).length) := by rw [Hid, hlenW]; omega
      obtain ⟨g, d, e0, hgB, hgs, hcap, _, _, _⟩ := hrw.out.elem HKL.out
      injection e0 with e1 _ e3
      subst e3
      subst e1
      have HROW : Hid (rowK (U ++ [[a, b, c]]) U.length = [a, b, c]) := by simp [Hid, rowK]
      have HU : Hid (RowN wr (mb + 1) 52 3 (.slice (some ⟨g, 0, none⟩) U.length c2) U) := by
        have := hrw.out.take (Nat.le_of_lt HKL.out)
        rw [List.take_left' rfl] at this
        exact this
      rw [hlenW] at hq hqb hcap hrw ⊢
      have hql := hqb.out
      clear hthr hW hlenW
      have hmlt := hmk.out.lt
      have hsl := fun V => headN 61 52 elem_threes Try.underlying61 i0 hi V g (U.length + 1) c2 U.length (by omega)
      have HNT := Lib.hid (Blk.new (t := 52) wr [0, 0, 0])
      have hul : U.length ≤ 7000 := by omega
      clear hql
      by_cases hin : [a, b, c] ∈ K
      · have HDEC : Hid (decide ([a, b, c] ∈ K) = true) := by simpa [Hid] using hin
        have HIN := Lib.hid hin
        clear hin
        go_wp2_with (first
          | (refine load_elem rfl _ 52 rfl _ rfl Try.underlying52 g (U.length + 1) c2 (mb + 1) U.length 3 (U ++ [[a, b, c]]) hrw HKL.out three_size rfl ?_; rw [HROW.out])
          | (refine store_tri rfl _ _ rfl wr.heap.size zero3 [a, b, c] rfl rfl rfl rfl HNT ?_; intro w6 HB6 hg6 hs6; have h6 : Hid (Below wr.heap.size wr w6) := Lib.hid (((Below.refl _ _).alloc (Nat.le_refl _) _).grown hg6 (by simp) (by simp)); have HM6 := Lib.hid (hmk.out.below h6.out hmlt))
          | (refine load_tri rfl _ rfl wr.heap.size [a, b, c] rfl rfl HB6 ?_)
          | (refine look_op rfl _ _ rfl mb K [a, b, c] HSM.out rfl rfl HM6 ?_; rw [HDEC.out]))
        go_wp2
        go_roundg (16 * untold n K + U.length)
        case measure => have := hq.out; omega
        case rel => exact ⟨U, K, Lib.hid rfl, Lib.hid (by have := hqb.out; omega), Lib.hid (HU.out.below h6.out (fun i hi => (HU.out.lt i hi).2)), HM6, Lib.hid (hinv.out.skip HIN.out), Lib.hid (hbl.out.trans (h6.out.mono (by omega)))⟩
      · have HDEC : Hid (decide ([a, b, c] ∈ K) = false) := by simpa [Hid] using hin
        have HIN := Lib.hid hin
        clear hin
        obtain ⟨J, hJ⟩ : ∃ J, J = joinTo ([a, b, c] :: K) a b c n := ⟨_, rfl⟩
        have HPU := Lib.hid (hinv.out.push HL.out)
        have hJl := joinTo_len ([a, b, c] :: K) a b c n
        have HCJ := Lib.hid (fun V (hV : MapK V mb ([a, b, c] :: K)) => joined_any n mb ([a, b, c] :: K) a b c V (by omega) hV (by omega) (by omega) (by omega) (by omega) (by omega) (by omega))
        rw [← hJ] at HPU hJl HCJ
        clear hJ
        have HUC := Lib.hid (untold_cons n K _ HTH.out HIN.out)
        have HLE := Lib.hid hJl
        go_wp2_with (first
          | (refine load_elem rfl _ 52 rfl _ rfl Try.underlying52 g (U.length + 1) c2 (mb + 1) U.length 3 (U ++ [[a, b, c]]) hrw HKL.out three_size rfl ?_; rw [HROW.out])
          | (refine store_tri rfl _ _ rfl wr.heap.size zero3 [a, b, c] rfl rfl rfl rfl HNT ?_; intro w6 HB6 hg6 hs6; have h6 : Hid (Below wr.heap.size wr w6) := Lib.hid (((Below.refl _ _).alloc (Nat.le_refl _) _).grown hg6 (by simp) (by simp)); have HM6 := Lib.hid (hmk.out.below h6.out hmlt))
          | (refine load_tri rfl _ rfl wr.heap.size [a, b, c] rfl rfl HB6 ?_)
          | (refine look_op rfl _ _ rfl mb K [a, b, c] HSM.out rfl rfl HM6 ?_; rw [HDEC.out])
          | (refine store_op rfl _ _ _ rfl mb K [a, b, c] HSM.out HIN.out rfl rfl rfl HM6 ?_; intro w7 HM7 hg7 hs7; have HB7 := Lib.hid (HB6.out.grown hg7 (by simp; omega)))
          | (refine load_tri rfl _ rfl wr.heap.size [a, b, c] rfl rfl HB7 ?_))
        have ht6 := HB6.out.lt
        have hz6 := h6.out.size
        have HU7 := Lib.hid ((HU.out.below h6.out (fun i hi => (HU.out.lt i hi).2)).grown hg7 (fun k hk e => by have := (HU.out.lt k hk).1; injection e; omega))
        have HW7 := Lib.hid ((hbl.out.trans (h6.out.mono (Nat.le_of_lt hmlt))).grown hg7 (by omega) (fun k hk => by injection hk; omega))
        clear hg7
        refine (turned_lit a b c w7).mono ?_
        rintro e w8 ⟨rfl, hb8⟩
        have hz8 := hb8.size
        have HU8 := Lib.hid (HU7.out.below hb8 (fun i hi => (HU7.out.lt i hi).2))
        have HM8 := Lib.hid (HM7.out.below hb8 (by omega))
        have HT8 := Lib.hid (HB7.out.below hb8 (by omega))
        have HW8 := Lib.hid (HW7.out.trans (hb8.mono (by omega)))
        clear hb8 HU7 HM7 HB7 HW7 HU HM6 HB6 hg6
        go_wp2_with (at_builtin; refine wpList_append_own _ rfl _ _ 61 rfl (mb + 1) 52 i0 (.agg #[.int .i64 0, .int .i64 0, .int .i64 0]) 3 24 Try.underlying61 hi hz0 hz1 hz2 rfl (by decide) _ _ _ rfl (HU8.out.2.alloc _) ⟨w8.heap.size, 0, none⟩ 1 1 (ints [b, c, a]) rfl rfl (World.news_of_block (heap_alloc_new w8 _)) (ints_oneCell _) (by unfold maxLen; omega) (by omega) (by simp; omega) ?_)
        intro v9 w9 hown9 hgr9 _
        have HR9 := Lib.hid (HU8.out.snoc (l := [b, c, a]) rfl hown9)
        have hz9 := hgr9.size
        have HM9 := Lib.hid ((HM8.out.alloc (.cells (ints [b, c, a]).toArray 52)).grown hgr9 (by intro e; have := (HU8.out.lt _ e.symm).1; omega))
        have HT9 := Lib.hid ((HT8.out.alloc (.cells (ints [b, c, a]).toArray 52)).grown hgr9 (fun e => by have h1 : wr.heap.size = g := Option.some.inj e; omega))
        have HW9 := Lib.hid ((HW8.out.alloc (by omega) _).grown hgr9 (by simp; omega) (fun i hi => by have := (HU8.out.lt i hi).1; omega))
        simp only [World.size_alloc] at hz9
        clear hown9 hgr9 HU8 HM8 HT8 HW8
        obtain ⟨U9, hU9⟩ : ∃ U9, U9 = U ++ [[b, c, a]] := ⟨_, rfl⟩
        have HU9 := Lib.hid hU9
        have HLN : Hid (U9.length = U.length + 1) := by rw [Hid, hU9]; simp
        rw [← hU9] at HR9 HPU
        clear hU9
        have HCC := Lib.hid (HCJ.out w9 HM9.out)
        go_wp2_with (first
          | (refine load_tri rfl _ rfl wr.heap.size [a, b, c] rfl rfl HT9 ?_))
        refine HCC.out.mono ?_
        rintro e w10 ⟨g', d', rfl, hrj, hbj⟩
        have hzj := hbj.size
        have HRJ := Lib.hid hrj
        have HR10 := Lib.hid (HR9.out.below hbj (fun i hi => (HR9.out.lt i hi).2))
        have HM10 := Lib.hid (HM9.out.below hbj (by omega))
        have HW10 := Lib.hid (HW9.out.trans (hbj.mono (by omega)))
        have HFL := Lib.hid (flat_length 3 J hrj.1)
        clear hrj hbj HR9 HM9 HW9 HT9 HCC
        go_wp2_with (at_builtin; refine wpList_append_own _ rfl _ _ 61 rfl (mb + 1) 52 i0 (.agg #[.int .i64 0, .int .i64 0, .int .i64 0]) 3 24 Try.underlying61 hi hz0 hz1 hz2 rfl (by decide) _ _ _ rfl HR10.out.2 ⟨g', 0, none⟩ J.length d' (ints J.flatten) rfl (by rw [ints_length, HFL.out]) HRJ.out.cells (ints_oneCell _) (by have := HLN.out; unfold maxLen; omega) (by have := HLN.out; omega) (by omega) ?_)
        intro v11 w11 hown11 hgr11 _
        have HR11 := Lib.hid (HR10.out.cat HRJ.out.1 hown11)
        have HM11 := Lib.hid (HM10.out.grown hgr11 (by intro e; have := (HR10.out.lt _ e.symm).1; omega))
        have HW11 := Lib.hid (HW10.out.grown hgr11 (by omega) (fun i hi => by have := (HR10.out.lt i hi).1; omega))
        clear hown11 hgr11 HR10 HM10 HW10
        go_wp2
        go_roundg (16 * untold n ([a, b, c] :: K) + (U9 ++ J).length)
        case measure =>
          have h1 := hq.out
          have h2 := HUC.out
          have h3 := HLN.out
          rw [List.length_append]
          omega
        case rel =>
          exact ⟨U9 ++ J, [a, b, c] :: K, Lib.hid rfl, Lib.hid (by have h1 := hqb.out; have h2 := HUC.out; have h3 := HLN.out; rw [List.length_append]; omega), HR11, HM11, HPU, HW11⟩

set_option maxRecDepth 10000 in
theorem closed_any (n : Nat) (v : Value) (C : Nat) (L : List (List Int)) (w : World) (h : RowN w C 52 3 v L) (hL : ∀ t ∈ L, Thr (n : Int) t) (hlen : L.length ≤ 1000) (hn : n ≤ 6) :
    Calls Try.prog 67 #[.int .i64 (n : Int), v] w fun e w' => ∃ K, e = .returned (.map (some w.heap.size)) ∧ MapK w' w.heap.size K ∧ (∀ t, t ∈ K ↔ Cl L t) ∧ Below w.heap.size w w' := by
  have HT := Lib.hid (tell_any n w.heap.size [] v C L (w.alloc (.map #[] 0)) (MapK.made w) (h.alloc _) hL hlen hn)
  have hb0 : Below w.heap.size w (w.alloc (.map #[] 0)) := (Below.refl _ _).alloc (Nat.le_refl _) _
  have hmk := fun W => run_makeMap (P := Try.prog) 71 W
  clear h hL
  go_enter Try.func67, Try.ntmps67
  go_wp2_with fail
  refine HT.out.mono ?_
  rintro e w1 ⟨rfl, ⟨K, hK1, hK2⟩, hb1⟩
  have HK1 := Lib.hid hK1
  have HK2 := Lib.hid hK2
  clear hK1 hK2
  go_wp2
  go_ret
  exact ⟨K, rfl, HK1.out, HK2.out, hb0.trans hb1⟩
end Go.Proofs.Ytdlgabefbomleaa
