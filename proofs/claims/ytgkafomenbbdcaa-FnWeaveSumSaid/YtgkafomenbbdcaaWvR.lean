/- The program's reading of a part of n points. -/
import Derived.Test.YtgkafomenbbdcaaWvP
namespace Go.Proofs.Ytgkafomenbbdcaa
open Go.ChangeShapes Go.WideShapes Go.ChangeAt Go.RowKit

def asked (n : Int) : Bool := decide (3 ≤ n) && decide (n ≤ 6)
theorem askI_any (n : Int) (w : World) : Calls Try.prog 120 #[.int .i64 n] w fun e w' => e = .returned (.bool (asked n)) ∧ w = w' := by
  unfold asked
  by_cases h : 3 ≤ n
  all_goals
    go_enter Try.func120, Try.ntmps120
    go_wp2
    go_ret
    exact ⟨by simp [h]; try omega, rfl⟩
theorem flipW {P : Program} {f : FuncId} {args : Array Value} {w : World} {v : Value} (h : Calls P f args w fun e w' => e = .returned v ∧ w = w') : Calls P f args w fun e w' => e = .returned v ∧ w' = w :=
  h.mono fun _ _ ⟨a, b⟩ => ⟨a, b.symm⟩
def prtL (n : Int) (l : List Int) : List Int := if Prt n l then l else []
theorem prtL_yes {n : Int} {l : List Int} (h : Prt n l) : prtL n l = l := by rw [prtL, if_pos h]
theorem prtL_no {n : Int} {l : List Int} (h : ¬ Prt n l) : prtL n l = [] := by rw [prtL, if_neg h]

set_option maxRecDepth 10000 in
set_option maxHeartbeats 1000000 in
theorem readPart_any (A : Option Addr) (m c H : Nat) (l : List Int) (n : Int) (w : World) (h : Rd w H A m l) (hH : H ≤ w.heap.size) (hm : m ≤ 1048576) (hmc : m ≤ c) (hcm : c ≤ 9223372036854775807) :
    Calls Try.prog 99 #[.int .i64 n, .slice A m c] w fun e w' => ∃ v, e = .returned (.tuple #[v, .bool (prt n l)]) ∧ RowV w' w.heap.size v (prtL n l) ∧ Below w.heap.size w w' := by
  have HL := Lib.hid h.len
  have HNIL : Hid (RowV w w.heap.size (.slice none 0 0) []) := ⟨.inl ⟨rfl, rfl⟩, none, 0, rfl, Nat.le_refl _, by omega⟩
  have HA := Lib.hid (fun k => flipW (askI_any n (w.drewN k)))
  have HPT := Lib.hid (fun k => pointsIn_any A m c H l n (w.drewN k) (h.drewN k) hm hmc hcm)
  cases ha : asked n with
  | false =>
    have TF : ¬ Prt n l := fun hh => by have := hh.1; simp [asked] at ha; omega
    have T1 := Lib.hid (prt_no TF)
    have T2 := Lib.hid (prtL_no TF)
    rw [ha] at HA
    clear ha TF h
    go_enter Try.func99, Try.ntmps99
    go_wp2
    go_quiet (first | (go_at_call 120; refine Calls.quiet_of_same (HA.out _)))
    go_wp2
    go_ret2
    exact ⟨.slice none 0 0, by rw [T1.out]; rfl, by rw [T2.out]; exact HNIL.out, below_drewN (Below.refl _ _) _⟩
  | true =>
    have ha' : 3 ≤ n ∧ n ≤ 6 := by simpa [asked] using ha
    rw [ha] at HA
    clear ha
    by_cases hm0 : m = 0
    · subst hm0
      have TF : ¬ Prt n l := fun hh => hh.2.1 (List.eq_nil_of_length_eq_zero HL.out)
      have T1 := Lib.hid (prt_no TF)
      have T2 := Lib.hid (prtL_no TF)
      clear TF h
      go_enter Try.func99, Try.ntmps99
      go_wp2
      go_quiet (first | (go_at_call 120; refine Calls.quiet_of_same (HA.out _)))
      go_wp2
      go_ret2
      exact ⟨.slice none 0 0, by rw [T1.out]; rfl, by rw [T2.out]; exact HNIL.out, below_drewN (Below.refl _ _) _⟩
    · by_cases hp : Pts n l
      · rw [pts_yes hp] at HPT
        have hbd : ∀ x ∈ l, 0 ≤ x ∧ x < 7 := fun x hx => by have := hp.1 x hx; omega
        have hlen : m ≤ 6 := by
          have := nodup_le n.toNat l hp.2 (fun x hx => by have := hp.1 x hx; omega)
          rw [HL.out] at this; omega
        have HMN := Lib.hid (fun k => flipW (min_any A m c H l (w.drewN k) (h.drewN k) (by omega) hm))
        have hml := minL_head l
        have h0 : 0 < l.length := by rw [HL.out]; omega
        obtain ⟨b, o, rfl, hbH, hcs⟩ := h.at_ (by omega)
        have hc0 := hcs 0 (by omega)
        rw [Nat.add_zero] at hc0
        clear hcs
        by_cases hmin : l.getD 0 0 = minL l
        · have HP : Prt n l := ⟨ha', by intro e; rw [e] at h0; simp at h0, hp, hml.1 hmin⟩
          have T1 := Lib.hid (prt_yes HP)
          have T2 := Lib.hid (prtL_yes HP)
          have hlt := mask_lt l hbd
          have HSO := Lib.hid (fun W (hW : Rd W H (some ⟨b, o, none⟩) m l) => setOf_any _ m c H l W hW hm hbd)
          have HPO := Lib.hid (fun W (hW : Rd W H (some ⟨b, o, none⟩) m l) (hHW : H ≤ W.heap.size) => partOf_any _ m c H (maskN l) l W hW hHW (by omega) (by omega) hbd hlt)
          rw [pick_mask l (fun x hx => (hbd x hx).1)] at HPO
          have hne : (minL l != minL l) = false := by simp
          have e0 : ((m : Int) == 0) = false := by simp; omega
          rw [hmin] at hc0
          have HR := Lib.hid h
          clear h hp hbd hml hmin HP hlt h0 ha'
          generalize minL l = x0 at *
          generalize maskN l = s at *
          go_enter Try.func99, Try.ntmps99
          go_wp2
          go_quiet (first | (go_at_call 120; refine Calls.quiet_of_same (HA.out _)) | (go_at_call 117; refine Calls.quiet_of_same (HPT.out _)) | (go_at_call 138; refine Calls.quiet_of_same (HMN.out _)))
          go_wp2_with fail
          refine (HSO.out _ (HR.out.drewN _)).mono ?_
          rintro e w' ⟨rfl, rfl⟩
          go_wp2_with fail
          refine (HPO.out _ (HR.out.drewN _) hH).mono ?_
          rintro e w3 ⟨v3, rfl, hr3, hb3⟩
          have HR3 := Lib.hid hr3
          clear hr3
          go_wp2
          go_ret2
          exact ⟨v3, by rw [T1.out]; rfl, by rw [T2.out]; exact HR3.out, (below_drewN (Below.refl _ _) _).trans hb3⟩
        · have TF : ¬ Prt n l := fun hh => hmin (hml.2 hh.2.2.2)
          have T1 := Lib.hid (prt_no TF)
          have T2 := Lib.hid (prtL_no TF)
          have e0 : ((m : Int) == 0) = false := by simp; omega
          have hne : (l.getD 0 0 != minL l) = true := by simpa using hmin
          clear h hp hbd hml hmin h0 ha' TF
          generalize minL l = x1 at *
          generalize l.getD 0 0 = x0 at *
          go_enter Try.func99, Try.ntmps99
          go_wp2
          go_quiet (first | (go_at_call 120; refine Calls.quiet_of_same (HA.out _)) | (go_at_call 117; refine Calls.quiet_of_same (HPT.out _)) | (go_at_call 138; refine Calls.quiet_of_same (HMN.out _)))
          go_wp2
          go_ret2
          exact ⟨.slice none 0 0, by rw [T1.out]; rfl, by rw [T2.out]; exact HNIL.out, below_drewN (Below.refl _ _) _⟩
      · have TF : ¬ Prt n l := fun hh => hp hh.2.2.1
        have T1 := Lib.hid (prt_no TF)
        have T2 := Lib.hid (prtL_no TF)
        rw [pts_no hp] at HPT
        have e0 : ((m : Int) == 0) = false := by simp; omega
        clear TF h hp
        go_enter Try.func99, Try.ntmps99
        go_wp2
        go_quiet (first | (go_at_call 120; refine Calls.quiet_of_same (HA.out _)) | (go_at_call 117; refine Calls.quiet_of_same (HPT.out _)))
        go_wp2
        go_ret2
        exact ⟨.slice none 0 0, by rw [T1.out]; rfl, by rw [T2.out]; exact HNIL.out, below_drewN (Below.refl _ _) _⟩
end Go.Proofs.Ytgkafomenbbdcaa
