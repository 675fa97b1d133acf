/- WeavePart and WeaveHas of the model and of the program. -/
import Derived.Test.YtgojojoanhilnabDoorWvH
import Derived.Test.YtgojojoanhilnabDoorWA
import Derived.Test.YtgojojoanhilnabDoorMA
namespace Go.Proofs.YtgojojoanhilnabDoor
open Go.ChangeShapes Go.WideShapes Go.ChangeAt Go.RowKit

/-- Whether a list is a ring of at most six points and a number a set of some of them. -/
def WP (l : List Int) (s : Int) : Prop := Ring l ∧ l.length ≤ 6 ∧ 1 ≤ s ∧ s ≤ 2 ^ l.length - 1
instance (l : List Int) (s : Int) : Decidable (WP l s) := by unfold WP; infer_instance
def wpB (l : List Int) (s : Int) : Bool := decide (WP l s)
def wpR (l : List Int) (s : Int) : List Int := if WP l s then partL l s.toNat else []
theorem wp_yes {l : List Int} {s : Int} (h : WP l s) : wpB l s = true ∧ wpR l s = partL l s.toNat := ⟨by simpa [wpB] using h, by rw [wpR, if_pos h]⟩
theorem wp_no {l : List Int} {s : Int} (h : ¬ WP l s) : wpB l s = false ∧ wpR l s = [] := ⟨by simpa [wpB] using h, by rw [wpR, if_neg h]⟩
theorem wpR_length (l : List Int) (s : Int) : (wpR l s).length ≤ 7 := by
  unfold wpR
  split
  · rename_i h; exact part_short l _ h.1.1.2.1
  · simp
theorem pow6 (n : Nat) (h : n ≤ 6) : (2 : Int) ^ n - 1 = ((2 ^ n - 1 : Nat) : Int) := by
  obtain rfl | rfl | rfl | rfl | rfl | rfl | rfl : n = 0 ∨ n = 1 ∨ n = 2 ∨ n = 3 ∨ n = 4 ∨ n = 5 ∨ n = 6 := by omega
  all_goals decide

theorem wp_nat {l : List Int} {s : Int} (h : WP l s) : ∃ k : Nat, s = (k : Int) ∧ 0 < k ∧ k < 2 ^ l.length := by
  refine ⟨s.toNat, by have := h.2.2.1; omega, by have := h.2.2.1; omega, ?_⟩
  have h1 := h.2.2.2
  have h2 := h.2.2.1
  have e : ((2 ^ l.length : Nat) : Int) = 2 ^ l.length := by simp
  omega

theorem askQ (n : Int) (r : Bool) (h : asked n = r) (w : World) : Calls Tryd.prog 41 #[.int .i64 n] w fun e w' => e = .returned (.bool r) ∧ w = w' := by
  subst h
  exact askI_any n w
theorem nil_own (w : World) (B : Nat) : OwnG w B (.slice none 0 0) [] := .inl ⟨rfl, rfl⟩

/-- Whether a list is a ring of at most six points that has a part. -/
def whB (l p : List Int) : Bool := decide (Ring l ∧ Prt (l.length : Int) p ∧ hasL l p = true)
theorem wh_all {l p : List Int} (hr : Ring l) (hp : Prt (l.length : Int) p) : whB l p = hasL l p := by
  cases h : hasL l p with
  | true => simpa [whB] using ⟨hr, hp, h⟩
  | false => simp [whB, h]
theorem wh_ring {l p : List Int} (hr : ¬ Ring l) : whB l p = false := by simp [whB, hr]
theorem wh_prt {l p : List Int} (hp : ¬ Prt (l.length : Int) p) : whB l p = false := by simp [whB, hp]

set_option maxRecDepth 10000 in
set_option maxHeartbeats 1000000 in
theorem whI_any (A : Option Addr) (n c : Nat) (B : Option Addr) (m d H : Nat) (l p : List Int) (w : World) (h : Rd w H A n l) (k : Rd w H B m p) (hH : H ≤ w.heap.size) (hn : n ≤ 1048576) (hm : m ≤ 1048576) (hnc : n ≤ c) (hcm : c ≤ 9223372036854775807) (hmd : m ≤ d) (hdm : d ≤ 9223372036854775807) (hT : Tab w) :
    Calls Tryd.prog 10 #[.slice A n c, .slice B m d] w fun e w' => e = .returned (.bool (whB l p)) ∧ Below w.heap.size w w' := by
  have HL := Lib.hid h.len
  have HRR := Lib.hid (readR_any A n c H l w h hH hn hnc hcm)
  have H7 := Lib.hid (ringP_length l)
  have HRP := Lib.hid (fun W (hW : Below w.heap.size w W) => readPart_any B m d H p (n : Int) W (k.below (hW.mono hH)) (Nat.le_trans hH hW.size) hm hmd hdm)
  have HT := Lib.hid hT
  have key : ∀ (b1 b2 : Bool) (R : List Int), ringB l = b1 → prt (n : Int) p = b2 → prtL (n : Int) p = R → (b1 = true → b2 = true → ∀ (W : World) (A' : Option Addr) (c' : Nat), Rd W W.heap.size A' R.length R → Tab W → Calls Tryd.prog 29 #[.agg (ints (ringP l)).toArray, .slice A' R.length c'] W fun e w' => e = .returned (.bool (whB l p)) ∧ Below W.heap.size W w') → (b1 && b2) = false ∨ (b1 && b2) = true → ((b1 && b2) = false → whB l p = false) →
      Calls Tryd.prog 10 #[.slice A n c, .slice B m d] w fun e w' => e = .returned (.bool (whB l p)) ∧ Below w.heap.size w w' := by
    intro b1 b2 R e1 e2 e3 hh hb hf
    rw [e1] at HRR
    rw [e2, e3] at HRP
    have HH := Lib.hid hh
    have HF := Lib.hid hf
    clear h k hT e1 e2 e3 hh hf
    generalize whB l p = r at *
    generalize ringP l = P at *
    have start : ∀ (Q : Prop), Q → Q := fun _ q => q
    cases b1 <;> cases b2
    case true.true =>
      obtain ⟨p0, p1, p2, p3, p4, p5, p6, eP⟩ := seven H7.out
      subst eP
      have HH' := Lib.hid (HH.out rfl rfl)
      simp only [ints, List.map_cons, List.map_nil] at HH' HRR
      go_enter Tryd.func10, Tryd.ntmps10
      go_wp2_with fail
      refine HRR.out.mono ?_
      rintro e w1 ⟨rfl, hb1⟩
      have HA1 := Lib.hid (new_ring w1)
      have HB1 := Lib.hid hb1
      have hs1 := hb1.size
      clear hb1
      go_wp2_with (first
        | (refine store_ring rfl _ _ rfl w1.heap.size zero7 [p0, p1, p2, p3, p4, p5, p6] rfl H7.out rfl rfl HA1 ?_; intro w2 HA2 hg2 hs2
           have HB2 := Lib.hid ((HB1.out.alloc (by omega) (.cells #[.int .i64 0, .int .i64 0, .int .i64 0, .int .i64 0, .int .i64 0, .int .i64 0, .int .i64 0] 49)).grown hg2 (by simp; omega) (by simp; omega))
           clear HA1 HB1 hg2)
        | (go_at_call 28; refine (HRP.out _ HB2.out).mono ?_; rintro e w3 ⟨v3, rfl, hr3, hb3⟩
           obtain ⟨A3, c3, ev, _⟩ := hr3.2
           subst ev
           have HB3 := Lib.hid (HB2.out.trans (hb3.mono HB2.out.size))
           have HC3 := Lib.hid (HH'.out w3 A3 c3 hr3.1.rd.2 (HT.out.on HB3.out))
           obtain ⟨k0, k1, k2, k3, k4, k5, k6⟩ := cells7 (HA2.out.below hb3 HA2.out.lt)
           clear hr3 hb3 HA2)
        | (go_at_call 29; refine HC3.out.mono ?_; rintro e w4 ⟨rfl, hb4⟩))
      go_ret
      exact ⟨rfl, HB3.out.trans (hb4.mono HB3.out.size)⟩
    all_goals
      have HF' := Lib.hid (HF.out rfl)
      rw [HF'.out]
      go_enter Tryd.func10, Tryd.ntmps10
      go_wp2_with fail
      refine HRR.out.mono ?_
      rintro e w1 ⟨rfl, hb1⟩
      have HA1 := Lib.hid (new_ring w1)
      have HB1 := Lib.hid hb1
      have hs1 := hb1.size
      clear hb1
      go_wp2_with (first
        | (refine store_ring rfl _ _ rfl w1.heap.size zero7 P rfl H7.out rfl rfl HA1 ?_; intro w2 HA2 hg2 hs2
           have HB2 := Lib.hid ((HB1.out.alloc (by omega) (.cells #[.int .i64 0, .int .i64 0, .int .i64 0, .int .i64 0, .int .i64 0, .int .i64 0, .int .i64 0] 49)).grown hg2 (by simp; omega) (by simp; omega))
           clear HA1 HB1 hg2)
        | (go_at_call 28; refine (HRP.out _ HB2.out).mono ?_; rintro e w3 ⟨v3, rfl, hr3, hb3⟩
           obtain ⟨A3, c3, ev, _⟩ := hr3.2
           subst ev
           have HB3 := Lib.hid (HB2.out.trans (hb3.mono HB2.out.size))
           clear hr3 hb3 HA2))
      go_ret
      exact ⟨rfl, HB3.out⟩
  refine key (ringB l) (prt (n : Int) p) (prtL (n : Int) p) rfl rfl rfl ?_ (by cases (ringB l && prt (n : Int) p) <;> simp) ?_
  · intro h1 h2 W A' c' hR hTW
    have hr : Ring l := by simpa [ringB] using h1
    have hp : Prt (n : Int) p := by simpa [prt] using h2
    rw [prtL_yes hp] at hR ⊢
    rw [← HL.out] at hp
    rw [wh_all hr hp, show ringP l = padR l by rw [ringP, if_pos hr]]
    exact hasLI_any A' p.length c' W.heap.size l p W hR (Nat.le_refl _) hr.1 hp hTW
  · intro hf
    by_cases hr : Ring l
    · refine wh_prt fun hp => ?_
      rw [HL.out] at hp
      rw [ring_yes hr, prt_yes hp] at hf
      cases hf
    · exact wh_ring hr
end Go.Proofs.YtgojojoanhilnabDoor
