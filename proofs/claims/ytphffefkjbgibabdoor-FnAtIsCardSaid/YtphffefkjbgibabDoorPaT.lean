/- ProofAt of the program and of the model. -/
import Derived.Test.YtphffefkjbgibabDoorPtTAt
import Derived.Test.YtphffefkjbgibabDoorPA
import Derived.Test.YtphffefkjbgibabDoorPnX
import Derived.Test.YtphffefkjbgibabDoorPnV
namespace Go.Proofs.YtphffefkjbgibabDoor
open Go.ChangeShapes Go.WideShapes Go.ChangeAt Go.RowKit

theorem part_has {r : List Int} (ht : Tell r) {s : Nat} (h0 : 0 < s) (hs : s < 2 ^ r.length) (x : Int) : x ∈ partL r s ↔ x ∈ r ∧ s.testBit x.toNat = true := by
  have h7 := ht.2.1
  have hlt := low_lt s r.length h7 hs (by omega)
  have hlow : (lowN s : Int) ∈ r := ht.has (by omega) (by omega)
  unfold partL pickN
  rw [List.mem_filter, cutL_mem r _ x hlow]
  rfl
theorem part_pts {r : List Int} (ht : Tell r) {s : Nat} (h0 : 0 < s) (hs : s < 2 ^ r.length) : Pts (r.length : Int) (partL r s) :=
  ⟨fun x hx => ht.2.2.1 x ((part_has ht h0 hs x).1 hx).1, part_nodup ht h0 hs⟩
theorem mask_part {r : List Int} (ht : Tell r) {s : Nat} (h0 : 0 < s) (hs : s < 2 ^ r.length) : maskN (partL r s) = s := by
  have hp := part_pts ht h0 hs
  apply Nat.eq_of_testBit_eq
  intro j
  unfold maskN
  rw [mask_bit _ (fun x hx => (hp.1 x hx).1)]
  simp only [Nat.zero_testBit, Bool.false_or]
  rw [Bool.eq_iff_iff, decide_eq_true_iff, part_has ht h0 hs]
  rw [Int.toNat_natCast]
  refine ⟨fun h => h.2, fun h => ⟨?_, h⟩⟩
  have hj : j < r.length := by
    by_cases hj : j < r.length
    · exact hj
    · have h2 : s < 2 ^ j := Nat.lt_of_lt_of_le hs (Nat.pow_le_pow_right (by omega) (by omega))
      rw [Nat.testBit_lt_two_pow h2] at h
      cases h
  exact ht.has (by omega) (by omega)
theorem fir_mem {l p : List Int} (h : pfB l p = true) : Two8 l p ∧ 0 < firN l p ∧ firN l p < 2 ^ l.length ∧ atN l p (firN l p) = true := by
  unfold pfB at h
  split at h
  · rename_i ht
    have hpos : 0 < mnyN l p := by simpa using h
    have hm : firN l p ∈ setsL l p := by
      rw [← sets_len] at hpos
      unfold firN
      have e : (setsL l p).getD 0 0 = (setsL l p)[0] := by simp [List.getD, hpos]
      rw [e]
      exact List.getElem_mem hpos
    unfold setsL at hm
    obtain ⟨hr, ha⟩ := List.mem_filter.1 hm
    have hs := List.mem_range.1 hr
    refine ⟨ht, ?_, hs, ha⟩
    have hz : sizN (firN l p) = p.length := by
      by_cases hz : sizN (firN l p) = p.length
      · exact hz
      · rw [at_siz ht.1.1 hs hz] at ha
        cases ha
    exact siz_pos hz (by have := ht.2.1.1.1; omega)
  · cases h
theorem ckA_fir {l p : List Int} (h : pfB l p = true) : ckA l p (partL l (firN l p)) = true := by
  obtain ⟨ht, h0, hs, ha⟩ := fir_mem h
  have hm := mask_part ht.1.1 h0 hs
  have hl : (partL l (firN l p)).length = p.length := by
    have e : patL l (firN l p) = p := by simpa [atN] using ha
    have h2 := pat_length ht.1.1 hs
    rw [e] at h2
    rw [h2]
    exact part_siz ht.1.1 hs
  unfold ckA
  rw [hm, pts_yes (part_pts ht.1.1 h0 hs), ha]
  simp [same, hl]

def paT (l p : List Int) : ByteArray := if pfB l p then tld atW (partL l (firN l p)) else ⟨#[]⟩

attribute [local go_sem ↓] ldR_fold stR_fold in
set_option maxRecDepth 10000 in
set_option maxHeartbeats 4000000 in
theorem paI_told (A0 : Option Addr) (n0 c0 : Nat) (A1 : Option Addr) (n1 c1 H : Nat) (l0 l1 : List Int) (w : World) (h0 : Rd w H A0 n0 l0) (h1 : Rd w H A1 n1 l1) (hH : H ≤ w.heap.size) (hn0 : n0 ≤ 1048576) (hn1 : n1 ≤ 1048576) (hnc0 : n0 ≤ c0) (hcm0 : c0 ≤ 9223372036854775807) (hnc1 : n1 ≤ c1) (hcm1 : c1 ≤ 9223372036854775807) (hT : Tab w) :
    Calls Tryd.prog 6 #[.slice A0 n0 c0, .slice A1 n1 c1] w fun e w' => e = .returned (.tuple #[.string (paT l0 l1), .bool (pfB l0 l1)]) ∧ Below w.heap.size w w' := by
  have HT := Lib.hid (pat2_any A0 n0 c0 A1 n1 c1 H l0 l1 w h0 h1 hH hn0 hn1 hnc0 hcm0 hnc1 hcm1)
  have HF := Lib.hid (fun (W : World) (hb : Below w.heap.size w W) => pfI_any A0 n0 c0 A1 n1 c1 H l0 l1 W (h0.below (hb.mono hH)) (h1.below (hb.mono hH)) (Nat.le_trans hH hb.size) hn0 hn1 hnc0 hcm0 hnc1 hcm1 (hT.on hb))
  have HTB := Lib.hid (fun (W : World) (hb : Below w.heap.size w W) => hT.on hb)
  have H70 := ringP_length l0
  have H71 := ringP_length l1
  clear h0 h1 hT
  cases hpf : pfB l0 l1 with
  | false =>
    have e : paT l0 l1 = ⟨#[]⟩ := by rw [paT, hpf]; rfl
    rw [e]
    rw [hpf] at HF
    clear e hpf
    generalize ringP l0 = P0 at *
    generalize ringP l1 = P1 at *
    generalize pfR l0 l1 = q at *
    cases htw : two8 l0 l1 with
    | false =>
      rw [htw] at HT
      go_enter Tryd.func6, Tryd.ntmps6
      go_wp2_with fail
      refine HT.out.mono ?_
      rintro e W1 ⟨rfl, hb1⟩
      obtain ⟨V1, V, r1, r2, a1, a2, hb2, hs2⟩ := new_two W1 P0 P1 H70 H71
      have HB := Lib.hid (hb1.trans (hb2.mono hb1.size))
      clear hb1 hb2 a1 a2 hs2
      go_wp2_with fail
      refine (HF.out _ HB.out).mono ?_
      rintro e w2 ⟨rfl, hb2⟩
      have HB2 := Lib.hid (HB.out.trans (hb2.mono HB.out.size))
      clear hb2
      go_wp2
      go_ret2
      exact ⟨rfl, HB2.out⟩
    | true =>
      rw [htw] at HT
      go_enter Tryd.func6, Tryd.ntmps6
      go_wp2_with fail
      refine HT.out.mono ?_
      rintro e W1 ⟨rfl, hb1⟩
      obtain ⟨V1, V, r1, r2, a1, a2, hb2, hs2⟩ := new_two W1 P0 P1 H70 H71
      have HB := Lib.hid (hb1.trans (hb2.mono hb1.size))
      clear hb1 hb2 a1 a2 hs2
      go_wp2_with fail
      refine (HF.out _ HB.out).mono ?_
      rintro e w2 ⟨rfl, hb2⟩
      have HB2 := Lib.hid (HB.out.trans (hb2.mono HB.out.size))
      clear hb2
      go_wp2
      go_ret2
      exact ⟨rfl, HB2.out⟩
  | true =>
    obtain ⟨ht, hs0, hs1, hat⟩ := fir_mem hpf
    have hck := ckA_fir hpf
    have hpp := part_pts ht.1.1 hs0 hs1
    have hl7 : (partL l0 (firN l0 l1)).length ≤ 7 := by rw [part_siz ht.1.1 hs1]; exact siz_le _
    have hr7 := ht.1.1.2.1
    have EQ : Hid (paT l0 l1 = tld atW (partL l0 (firN l0 l1))) := by rw [Hid, paT, hpf]; rfl
    have er : pfR l0 l1 = (firN l0 l1 : Int) := by rw [pfR, hpf]; rfl
    have e0 : ringP l0 = padR l0 := by rw [ringP, if_pos ht.1]
    have e1 : ringP l1 = padR l1 := by rw [ringP, if_pos ht.2.1]
    rw [two8_yes ht, e0, e1] at HT
    rw [hpf, er] at HF
    rw [e0] at H70
    rw [e1] at H71
    rw [EQ.out]
    have HPA := Lib.hid (fun W (hW : Tab W) => part_any l0 (firN l0 l1) W ht.1.1 hs0 hs1 hW)
    have HSH := Lib.hid (fun W => showsTo_any (padR l0) (padR l1) W)
    have HTO := Lib.hid (fun (x1 x2 : Nat) (A : Option Addr) (c : Nat) (W : World) (hx1 : Arr W x1 (padR l1)) (hx2 : Arr W x2 (padR l0)) (hcl : (partL l0 (firN l0 l1)).length ≤ c) (hcm : c ≤ 9223372036854775807) (hR : Rd W W.heap.size A (partL l0 (firN l0 l1)).length (partL l0 (firN l0 l1))) (hW : Tab W) =>
      told_At x1 x2 atW A c (partL l0 (firN l0 l1)) W (by decide) (fun x hx => by have := hpp.1 x hx; omega) (by omega)
        (Lib.hid (fun V hV => by
          have h := shows_any l0 l1 x1 x2 A c (partL l0 (firN l0 l1)) V ht.1 ht.2.1 (hx1.below hV hx1.lt) (hx2.below hV hx2.lt) (by omega) hcl hcm ((hR.below hV).more hV.size) (hW.on hV)
          rw [hck] at h
          exact h)) hR)
    clear ht hs0 hs1 hat hck hpp hpf EQ er e0 e1
    generalize partL l0 (firN l0 l1) = L at *
    generalize firN l0 l1 = s at *
    unfold agp at HPA
    generalize padR l0 = P0 at *
    generalize padR l1 = P1 at *
    go_enter Tryd.func6, Tryd.ntmps6
    go_wp2_with fail
    refine HT.out.mono ?_
    rintro e W1 ⟨rfl, hb1⟩
    obtain ⟨V1, V, r1, r2, a1, a2, hb2, hs2⟩ := new_two W1 P0 P1 H70 H71
    have HB := Lib.hid (hb1.trans (hb2.mono hb1.size))
    have HA1 := Lib.hid a1
    have HA2 := Lib.hid a2
    clear hb1 hb2 a1 a2 hs2 HT
    go_wp2_with fail
    refine (HF.out _ HB.out).mono ?_
    rintro e w2 ⟨rfl, hb2⟩
    have HB2 := Lib.hid (HB.out.trans (hb2.mono HB.out.size))
    have X1 := Lib.hid (HA1.out.below hb2 HA1.out.lt)
    have X2 := Lib.hid (HA2.out.below hb2 HA2.out.lt)
    have l1' := ldR_run X1.out.drew H70
    have l2' := ldR_run X2.out.drew H71
    have HT2 : Hid (Tab w2.drew) := (HTB.out w2 HB2.out).drewN 1
    clear hb2 HF HA1 HA2
    go_wp2_with fail
    go_region_held3 (fun V' => (ldR ⟨W1.heap.size, 0, none⟩).run Tryd.prog V' = .ok (.agg (ints P0).toArray) V' ∧ (ldR ⟨W1.heap.size + 1, 0, none⟩).run Tryd.prog V' = .ok (.agg (ints P1).toArray) V')
      (first
        | exact ⟨le, lf⟩
        | exact ⟨lc, ld⟩
        | exact ⟨la, lb⟩
        | exact ⟨l1', l2'⟩)
      (first
        | (go_at_call 18; refine (HTO.out _ _ A3 c3 w4 hx1 hx2 hl3 hm3 hr4 HT4.out).mono ?_; rintro e w5 ⟨rfl, hb5⟩
           have HB5 := Lib.hid (HB4.out.trans (hb5.mono HB4.out.size))
           have le := ldR_run (X1.out.below (HQ4.out.trans (hb5.mono HQ4.out.size)) X1.out.lt) H70
           have lf := ldR_run (X2.out.below (HQ4.out.trans (hb5.mono HQ4.out.size)) X2.out.lt) H71
           clear hb5)
        | (go_at_call 17; refine (HSH.out w3).mono ?_; rintro e w4 ⟨rfl, hx2, hx1, hb4, hz4⟩
           have HB4 := Lib.hid (HB3.out.trans (hb4.mono HB3.out.size))
           have HQ4 := Lib.hid (HQ3.out.trans (hb4.mono HQ3.out.size))
           have HT4 := Lib.hid (HTB.out _ HB4.out)
           have hr4 := (HR3.out.below hb4).more hb4.size
           have lc := ldR_run (X1.out.below HQ4.out X1.out.lt) H70
           have ld := ldR_run (X2.out.below HQ4.out X2.out.lt) H71)
        | (go_at_call 16; refine (HPA.out _ HT2.out).mono ?_; rintro e w3 ⟨v3, rfl, hr3, hb3⟩
           obtain ⟨A3, c3, ev, hl3, hm3⟩ := hr3.2
           subst ev
           have HR3 := Lib.hid hr3.1.rd.2
           have HQ3 : Hid (Below w2.heap.size w2 w3) := Lib.hid ((Below.refl w2.heap.size w2).drew.trans hb3)
           have HB3 := Lib.hid (HB2.out.drew.trans (hb3.mono (by simpa using HB2.out.size)))
           have la := ldR_run (X1.out.below HQ3.out X1.out.lt) H70
           have lb := ldR_run (X2.out.below HQ3.out X2.out.lt) H71
           clear hr3 hb3))
    all_goals
      go_wp2
      go_ret2
      exact ⟨rfl, HB5.out⟩

set_option maxRecDepth 10000 in
set_option maxHeartbeats 1000000 in
theorem paS_told (A0 : Option Addr) (n0 c0 : Nat) (A1 : Option Addr) (n1 c1 H : Nat) (l0 l1 : List Int) (w : World) (h0 : Rd w H A0 n0 l0) (h1 : Rd w H A1 n1 l1) (hH : H ≤ w.heap.size) (hn0 : n0 ≤ 1048576) (hn1 : n1 ≤ 1048576) :
    Calls Tryd.prog 7 #[.slice A0 n0 c0, .slice A1 n1 c1] w fun e w' => e = .returned (.tuple #[.string (paT l0 l1), .bool (pfB l0 l1)]) ∧ Below w.heap.size w w' := by
  have HF := Lib.hid (pfS_any A0 n0 c0 A1 n1 c1 H l0 l1 w h0 h1 hH hn0 hn1)
  cases hpf : pfB l0 l1 with
  | false =>
    have e : paT l0 l1 = ⟨#[]⟩ := by rw [paT, hpf]; rfl
    rw [e]
    rw [hpf] at HF
    clear e hpf h0 h1
    go_enter Tryd.func7, Tryd.ntmps7
    go_wp2_with fail
    refine HF.out.mono ?_
    rintro e w1 ⟨rfl, hb1⟩
    go_wp2
    go_ret2
    exact ⟨rfl, hb1⟩
  | true =>
    obtain ⟨ht, hs0, hs1, hat⟩ := fir_mem hpf
    have hpp := part_pts ht.1.1 hs0 hs1
    have hl7 : (partL l0 (firN l0 l1)).length ≤ 7 := by rw [part_siz ht.1.1 hs1]; exact siz_le _
    have hr7 := ht.1.1.2.1
    have EQ : Hid (paT l0 l1 = tld atW (partL l0 (firN l0 l1))) := by rw [Hid, paT, hpf]; rfl
    have er : pfR l0 l1 = (firN l0 l1 : Int) := by rw [pfR, hpf]; rfl
    rw [hpf, er] at HF
    rw [EQ.out]
    have HPS := Lib.hid (fun W (hb : Below w.heap.size w W) => partS_any A0 n0 c0 H l0 (firN l0 l1) W (h0.below (hb.mono hH)) (Nat.le_trans hH hb.size) ht.1.1 hs0 hs1)
    have HWD := Lib.hid (fun (A : Option Addr) (c : Nat) (W : World) (hR : Rd W W.heap.size A (partL l0 (firN l0 l1)).length (partL l0 (firN l0 l1))) => words_any atW A c (partL l0 (firN l0 l1)) W (by decide) (fun x hx => by have := hpp.1 x hx; omega) (by omega) hR)
    clear ht hs0 hs1 hat hpp hpf EQ er h0 h1
    generalize partL l0 (firN l0 l1) = L at *
    go_enter Tryd.func7, Tryd.ntmps7
    go_wp2_with fail
    refine HF.out.mono ?_
    rintro e w1 ⟨rfl, hb1⟩
    go_wp2_with fail
    refine (HPS.out w1 hb1).mono ?_
    rintro e w2 ⟨v2, rfl, ho2, hb2⟩
    obtain ⟨A2, c2, rfl⟩ := ho2.slice
    have HB2 := Lib.hid (hb1.trans (hb2.mono hb1.size))
    have HW2 := Lib.hid (HWD.out A2 c2 w2 ho2.rd.2)
    clear hb1 hb2 ho2
    go_wp2_with fail
    refine HW2.out.mono ?_
    rintro e w3 ⟨rfl, hb3⟩
    have HB3 := Lib.hid (HB2.out.trans (hb3.mono HB2.out.size))
    clear hb3
    go_wp2
    go_ret2
    exact ⟨rfl, HB3.out⟩
end Go.Proofs.YtphffefkjbgibabDoor
