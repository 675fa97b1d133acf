/- ProofClash of the model. -/
import Derived.Test.YthefnanhikjddaaDoorClI
import Derived.Test.YthefnanhikjddaaDoorCodS
import Derived.BigQuiet
import Derived.Deep.QuietTactic
namespace Go.Proofs.YthefnanhikjddaaDoor
open Go.ChangeShapes Go.WideShapes Go.ChangeAt Go.RowKit

set_option maxRecDepth 10000 in
set_option maxHeartbeats 1000000 in
theorem clash10_drew (g : Nat) (K : List (List Int)) (A : Option Addr) (c : Nat) (a b d : Nat) (w : World) (hm : Mk w g K) (h : Rd w w.heap.size A 3 [(a : Int), (b : Int), (d : Int)]) (ha : a < 6) (hb : b < 6) (hd : d < 6) :
    Calls Tryd.prog 27 #[.slice (some ⟨g, 0, none⟩) 216 216, .slice A 3 c] w fun e w' => e = .returned (.bool (decide ([(a : Int), (b : Int), (d : Int)] ∈ K) && decide ([(a : Int), (d : Int), (b : Int)] ∈ K))) ∧ ∃ q, w' = w.drewN q := by
  obtain ⟨bb, o, rfl, hbH, c0, c1, c2⟩ := rd3 h
  have m1 := hm.cell ha hb hd
  have m2 := hm.cell ha hd hb
  have n1 := codeN_lt ha hb hd
  have n2 := codeN_lt ha hd hb
  generalize decide ([(a : Int), (d : Int), (b : Int)] ∈ K) = s2 at *
  clear hm h
  cases hs1 : decide ([(a : Int), (b : Int), (d : Int)] ∈ K) with
  | false =>
    rw [hs1] at m1
    go_enter Tryd.func27, Tryd.ntmps27
    go_wp2
    go_quiet (refine Calls.quiet_of_same (code_any _ _ _ _ (by assumption) (by assumption) (by assumption)))
    go_wp2
    go_ret
    exact ⟨rfl, _, rfl⟩
  | true =>
    rw [hs1] at m1
    go_enter Tryd.func27, Tryd.ntmps27
    go_wp2
    go_quiet (refine Calls.quiet_of_same (code_any _ _ _ _ (by assumption) (by assumption) (by assumption)))
    go_wp2
    go_ret
    exact ⟨rfl, _, rfl⟩

theorem find_filter {α : Type} (p q : α → Bool) (S : List α) : (S.filter p).find? q = S.find? fun t => p t && q t := by
  induction S with
  | nil => rfl
  | cons a S ih =>
    rw [List.filter_cons, List.find?_cons, ← ih]
    cases p a
    · rfl
    · rw [if_pos rfl, List.find?_cons]
      rfl

set_option maxRecDepth 10000 in
set_option maxHeartbeats 4000000 in
theorem ctS_any (A : Option Addr) (n c H : Nat) (q : Int) (L : List (List Int)) (w : World) (h : RdS w H A n L) (hH : H ≤ w.heap.size) (hn : tot L ≤ 1048576) :
    Calls Tryd.prog 8 #[.int .i64 q, .slice A n c] w fun e w' => e = .returned (.tuple #[.string (ctT q L), .bool (ctF q L).isSome]) ∧ Below w.heap.size w w' := by
  have hnb : n ≤ 1048576 := by have := h.len; unfold tot at hn; omega
  have HN := Lib.hid h.len
  have HC := Lib.hid (telS_any A n c H L q w h hnb)
  by_cases ht : Tel q L
  rotate_left
  · have e : ctF q L = none := by rw [ctF, if_neg ht]
    have e2 : ctT q L = ⟨#[]⟩ := by rw [ctT, e]
    rw [(tel_no ht).1] at HC
    rw [e, e2]
    clear h hH ht e e2
    go_enter Tryd.func8, Tryd.ntmps8
    go_wp2_with (go_at_call 24; refine HC.out.mono ?_; rintro e w1 ⟨rfl, p0, rfl⟩)
    go_ret2
    exact ⟨rfl, below_drewN (Below.refl _ _) _⟩
  obtain ⟨m, rfl, h3, h6⟩ := tel_nat ht
  have HTT : Hid (ctT (m : Int) L = match ctF (m : Int) L with | none => ⟨#[]⟩ | some t => tld clW t) := rfl
  have HT := Lib.hid ht
  have HEL := everyL_len m (by omega)
  rw [(tel_yes ht).1] at HC
  have hr0 := Lib.hid h
  clear h hn ht
  obtain ⟨r0, hr00⟩ : ∃ r, r = ctF (m : Int) L := ⟨_, rfl⟩
  have HRR := Lib.hid hr00
  rw [← hr00] at HTT ⊢
  clear hr00
  go_enter Tryd.func8, Tryd.ntmps8
  go_wp2_with fail
  refine HC.out.mono ?_
  rintro e w1 ⟨rfl, p0, rfl⟩
  have hr1 := Lib.hid (hr0.out.drewN p0)
  have hb1 : Below w.heap.size w (w.drewN p0) := below_drewN (Below.refl _ _) p0
  have hs1 : (w.drewN p0).heap.size = w.heap.size := rfl
  clear hr0 HC
  generalize w.drewN p0 = W1 at *
  go_wp2_with fail
  refine (closedS_any A n c H m L W1 hr1.out (by omega) h3 h6 (by rw [← HN.out]; exact HT.out.2.2.1) HT.out.2.2.2).mono ?_
  rintro e w2 ⟨rfl, ⟨K, hmk, hK⟩, hb2⟩
  rw [hs1] at hmk hb2 ⊢
  have HM2 := Lib.hid hmk
  have HB2 := Lib.hid (hb1.trans hb2)
  have HSF : Hid (r0 = (everyL m).find? fun t => decide (t ∈ K) && decide (turn3 t ∈ K)) := by rw [Hid, HRR.out, ctF_of HT.out hK, find_filter]
  clear hmk hK hb2 hr1 hb1 hs1 HRR
  go_wp2_with fail
  refine (l2Every_any m w2 (by omega)).mono ?_
  rintro e w3 ⟨ve, rfl, hge, hb3⟩
  obtain ⟨Ae, ce, rfl, _⟩ := hge.slice
  have HM3 := Lib.hid (HM2.out.below hb3 HM2.out.lt)
  have HE3 := Lib.hid hge
  have HB3 := Lib.hid (HB2.out.trans (hb3.mono HB2.out.size))
  clear hge hb3 HM2
  obtain ⟨z, hz⟩ : ∃ z, z = (everyL m).length := ⟨_, rfl⟩
  have HZ := Lib.hid hz
  rw [← hz] at HE3 HEL ⊢
  clear hz
  generalize hB : w.heap.size = B at *
  have HB := Lib.hid hB
  clear hB
  go_wp2_with fail
  go_loopw [8] (fun i wr => ∃ k : Nat, k ≤ z ∧ i = .int .i64 k ∧ Hid (((everyL m).take k).any (fun t => decide (t ∈ K) && decide (turn3 t ∈ K)) = false) ∧ Hid (GrowS wr w2.heap.size (.slice Ae z ce) (everyL m)) ∧ Hid (Mk wr B K) ∧ Below B w wr) (fun i _ => z - (intOf i).toNat)
  case atStart => exact ⟨0, Nat.zero_le _, rfl, Lib.hid (by simp), HE3, HM3, HB3.out⟩
  case round =>
    obtain ⟨k, hk, rfl, hno, hge, hmk, hbl⟩ := hrel
    clear HE3 HM3 HB3
    have HBL := Lib.hid hbl
    clear hbl
    by_cases hlt : k < z
    · have hkl : k < (everyL m).length := by rw [← HZ.out]; exact hlt
      obtain ⟨g, c', A', d', e0, hc, hrow⟩ := hge.out.row hkl
      rw [← HZ.out] at e0
      injection e0 with e1 _ e3
      subst e3
      subst e1
      have hthr := (every_thr m _).1 (rowK_mem hkl)
      have HAS := Lib.hid (any_step (fun t => decide (t ∈ K) && decide (turn3 t ∈ K)) (everyL m) k hkl)
      have HFA := Lib.hid (find_at (fun t => decide (t ∈ K) && decide (turn3 t ∈ K)) (everyL m) k hkl hno.out)
      obtain ⟨x, y, u, e, hx, hy, hu, _⟩ := thr_nat hthr
      rw [e] at HAS HFA hc hrow
      have e3 : turn3 [(x : Int), (y : Int), (u : Int)] = [(x : Int), (u : Int), (y : Int)] := rfl
      rw [e3] at HAS HFA
      have hrd := hrow.1.rd.2
      have HCL := Lib.hid (fun (W : World) (hm : Mk W B K) (hR : Rd W W.heap.size A' 3 [(x : Int), (y : Int), (u : Int)]) => clash10_drew B K A' d' x y u W hm hR (by omega) (by omega) (by omega))
      have HWD := Lib.hid (fun (W : World) (hR : Rd W W.heap.size A' 3 [(x : Int), (y : Int), (u : Int)]) => words_any clW A' d' [(x : Int), (y : Int), (u : Int)] W (by decide) (fun v hv => by simp at hv; omega) (by simp) hR)
      change wr.cell? ⟨g, k, none⟩ = some (.slice A' 3 d') at hc
      have HRD := Lib.hid hrd
      clear hkl hthr e e3 hrow hrd
      cases hd : (decide ([(x : Int), (y : Int), (u : Int)] ∈ K) && decide ([(x : Int), (u : Int), (y : Int)] ∈ K)) with
      | false =>
        have HNN : Hid (((everyL m).take (k + 1)).any (fun t => decide (t ∈ K) && decide (turn3 t ∈ K)) = false) := by rw [Hid, HAS.out, hno.out, hd]; rfl
        rw [hd] at HCL
        clear hd HAS HFA
        go_wp2_with fail
        refine (HCL.out wr hmk.out HRD.out).mono ?_
        rintro e w4 ⟨rfl, nq, rfl⟩
        go_wp2
        go_roundw
        case rel => exact ⟨k + 1, by omega, by go_num, HNN, Lib.hid (hge.out.drewN nq), Lib.hid (hmk.out.drewN nq), below_drewN HBL.out nq⟩
        case measure => simp [intOf]; omega
      | true =>
        have HYY : Hid (r0 = some [(x : Int), (y : Int), (u : Int)]) := by rw [Hid, HSF.out]; exact HFA.out hd
        rw [hd] at HCL
        clear hd HAS HFA
        go_wp2_with fail
        refine (HCL.out wr hmk.out HRD.out).mono ?_
        rintro e w4 ⟨rfl, nq, rfl⟩
        have hc4 : (wr.drewN nq).cell? ⟨g, k, none⟩ = some (.slice A' 3 d') := hc
        have HR4 : Hid (Rd (wr.drewN nq) (wr.drewN nq).heap.size A' 3 [(x : Int), (y : Int), (u : Int)]) := HRD.out.drewN nq
        have HB4 := Lib.hid (below_drewN HBL.out nq)
        go_wp2_with fail
        refine (HWD.out _ HR4.out).mono ?_
        rintro e w5 ⟨rfl, hb5⟩
        have HB5 := Lib.hid (HB4.out.trans (hb5.mono (by have h1 := HB4.out.size; have h2 := HB.out; omega)))
        have E2 : Hid (ctT (m : Int) L = tld clW [(x : Int), (y : Int), (u : Int)]) := by rw [Hid, HTT.out, HYY.out]
        clear hb5
        go_wp2
        go_ret2
        exact ⟨by rw [E2.out, HYY.out]; rfl, by rw [HB.out]; exact HB5.out⟩
    · obtain rfl : k = z := by omega
      have HNN : Hid (r0 = none) := by
        have h := hno.out
        rw [List.take_of_length_le (by rw [← HZ.out]; omega), any_find] at h
        rw [Hid, HSF.out]
        simpa using h
      have E2 : Hid (ctT (m : Int) L = ⟨#[]⟩) := by rw [Hid, HTT.out, HNN.out]
      clear hno
      go_wp2
      go_ret2
      exact ⟨by rw [E2.out, HNN.out]; rfl, by rw [HB.out]; exact HBL.out⟩
end Go.Proofs.YthefnanhikjddaaDoor
