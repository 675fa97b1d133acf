/- PairParts of the model and of the program. -/
import Derived.Test.YtamnacgclhaggaaPart
import Derived.Test.YtamnacgclhaggaaMA
namespace Go.Proofs.Ytamnacgclhaggaa
open Go.ChangeShapes Go.WideShapes Go.ChangeAt Go.RowKit

def prtB (l t : List Int) : Bool := ringB l && four l.length t && partB l t

theorem four_mem {l t : List Int} (h : Tell l) (ht : Four l.length t) : ∃ x y z u, t = [x, y, z, u] ∧ x ∈ l ∧ y ∈ l ∧ z ∈ l ∧ u ∈ l := by
  obtain ⟨x, y, z, u, rfl⟩ := of_four ht.1
  have hm := ht.2.1
  exact ⟨x, y, z, u, rfl, h.has (hm x (by simp)).1 (hm x (by simp)).2, h.has (hm y (by simp)).1 (hm y (by simp)).2, h.has (hm z (by simp)).1 (hm z (by simp)).2, h.has (hm u (by simp)).1 (hm u (by simp)).2⟩

set_option maxHeartbeats 1000000 in
theorem ppS_any (A : Option Addr) (n c : Nat) (A' : Option Addr) (m d H : Nat) (l t : List Int) (w : World) (h : Rd w H A n l) (h' : Rd w H A' m t) (_ : H ≤ w.heap.size) (hn : n ≤ 1048576) (hm : m ≤ 1048576) :
    Calls Try.prog 24 #[.slice A n c, .slice A' m d] w fun e w' => e = .returned (.bool (prtB l t)) ∧ Below w.heap.size w w' := by
  have HL := Lib.hid h.len
  have HR := Lib.hid (ringS_any A n c H l w h hn)
  by_cases hr : Ring l
  · have h3 := hr.1.1
    have h7 := hr.1.2.1
    rw [HL.out] at h3 h7
    have HT := Lib.hid (l3Four_any A' m d H t (n : Int) w h' (by omega) (by omega) (by omega))
    rw [ring_yes hr] at HR
    by_cases ht : Four (n : Int) t
    · obtain ⟨x, y, z, u, rfl, hx, hy, hz, hu⟩ := four_mem hr.1 (by rw [HL.out]; exact ht)
      have hm4 : m = 4 := by rw [← h'.len]; rfl
      subst hm4
      have HH := Lib.hid (l3Parts_any A n c H l A' d H x y z u w h h' (by omega) h7 hx hy hz hu)
      rw [(four_yes ht).1] at HT
      have hv : Hid (prtB l [x, y, z, u] = partB l [x, y, z, u]) := by
        have e : four l.length [x, y, z, u] = true := by rw [HL.out]; exact (four_yes ht).1
        simp [Hid, prtB, ring_yes hr, e]
      rw [hv.out]
      generalize partB l [x, y, z, u] = r at *
      clear hr ht hx hy hz hu h h' hv
      cases r
      all_goals
        go_enter Try.func24, Try.ntmps24
        go_wp2_with (first
          | (go_at_call 45; refine HR.out.mono ?_; rintro e w' ⟨rfl, rfl⟩)
          | (go_at_call 63; refine HT.out.mono ?_; rintro e w' ⟨rfl, rfl⟩)
          | (go_at_call 64; refine HH.out.mono ?_; rintro e w' ⟨rfl, p, rfl⟩))
        go_ret
        exact ⟨rfl, below_drewN (Below.refl _ _) _⟩
    · rw [(four_no ht).1] at HT
      have hv : Hid (prtB l t = false) := by
        have e : four l.length t = false := by rw [HL.out]; exact (four_no ht).1
        simp [Hid, prtB, e]
      rw [hv.out]
      clear hr ht h h' hv
      go_enter Try.func24, Try.ntmps24
      go_wp2_with (first
        | (go_at_call 45; refine HR.out.mono ?_; rintro e w' ⟨rfl, rfl⟩)
        | (go_at_call 63; refine HT.out.mono ?_; rintro e w' ⟨rfl, rfl⟩))
      go_ret
      exact ⟨rfl, Below.refl _ _⟩
  · rw [ring_no hr] at HR
    have hv : Hid (prtB l t = false) := by simp [Hid, prtB, ring_no hr]
    rw [hv.out]
    clear hr h h' hv
    go_enter Try.func24, Try.ntmps24
    go_wp2_with (go_at_call 45; refine HR.out.mono ?_; rintro e w' ⟨rfl, rfl⟩)
    go_ret
    exact ⟨rfl, Below.refl _ _⟩

set_option maxRecDepth 10000 in
set_option maxHeartbeats 2000000 in
theorem ppI_any (A : Option Addr) (n c : Nat) (A' : Option Addr) (m d H : Nat) (l t : List Int) (w : World) (h : Rd w H A n l) (h' : Rd w H A' m t) (hH : H ≤ w.heap.size) (hn : n ≤ 1048576) (_ : m ≤ 1048576) (hnc : n ≤ c) (hcm : c ≤ 9223372036854775807) (hmd : m ≤ d) (hdm : d ≤ 9223372036854775807) :
    Calls Try.prog 23 #[.slice A n c, .slice A' m d] w fun e w' => e = .returned (.bool (prtB l t)) ∧ Below w.heap.size w w' := by
  have HL := Lib.hid h.len
  have HR := Lib.hid (readR_any A n c H l w h hH hn hnc hcm)
  have H7 := Lib.hid (ringP_length l)
  have HQ3 := Lib.hid (fourL_length (n : Int) t)
  obtain ⟨P, hP⟩ : ∃ P, P = ringP l := ⟨_, rfl⟩
  obtain ⟨T, hT⟩ : ∃ T, T = fourL (n : Int) t := ⟨_, rfl⟩
  have HT := Lib.hid (fun W (hR : Rd W H A' m t) (hW : H ≤ W.heap.size) => readParting_any A' m d H t (n : Int) W hR hW hmd hdm)
  rw [← hP] at HR H7
  rw [← hT] at HT HQ3
  have HP := Lib.hid hP
  have HTT := Lib.hid hT
  obtain ⟨rb, hrb⟩ : ∃ rb, rb = ringB l := ⟨_, rfl⟩
  obtain ⟨tb, htb⟩ : ∃ tb, tb = four (n : Int) t := ⟨_, rfl⟩
  rw [← hrb] at HR
  rw [← htb] at HT
  have HRB := Lib.hid hrb
  have HTB := Lib.hid htb
  have HX : Hid (prtB l t = (rb && (tb && partB l t))) := by rw [HRB.out, HTB.out, ← HL.out]; simp [Hid, prtB, Bool.and_assoc]
  have HG : Hid (rb = true → tb = true → ∃ x y z u, t = [x, y, z, u] ∧ P = padR l ∧ T = [x, y, z, u] ∧ 1 ≤ l.length ∧ l.length ≤ 7 ∧ (∀ x ∈ l, 0 ≤ x) ∧ x ∈ l ∧ y ∈ l ∧ z ∈ l ∧ u ∈ l) := by
    intro e1 e2
    have hr : Ring l := by have := HRB.out; rw [e1] at this; simpa [ringB] using this.symm
    have ht : Four (n : Int) t := by have := HTB.out; rw [e2] at this; simpa [four] using this.symm
    obtain ⟨x, y, z, u, rfl, hx, hy, hz, hu⟩ := four_mem hr.1 (by rw [HL.out]; exact ht)
    exact ⟨x, y, z, u, rfl, by rw [HP.out, ringP, if_pos hr], by rw [HTT.out, (four_yes ht).2], by have := hr.1.1; omega, hr.1.2.1, hr.1.pos, hx, hy, hz, hu⟩
  rw [HX.out]
  clear hP hT hrb htb h HL
  go_enter Try.func23, Try.ntmps23
  go_wp2_with fail
  refine HR.out.mono ?_
  rintro e W1 ⟨rfl, hb1⟩
  have HA := Lib.hid (new_ring W1)
  have hR1 := h'.below (hb1.mono hH)
  have hs1 := hb1.size
  clear HR h'
  go_wp2_with (first
    | (refine store_ring rfl _ _ rfl W1.heap.size zero7 P rfl H7.out rfl rfl HA ?_; intro w2 HA2 hg2 hs2; have hb2 : Hid (Below W1.heap.size W1 w2) := Lib.hid (((Below.refl _ _).alloc (Nat.le_refl _) _).grown hg2 (by simp) (by simp))))
  have hs2' := hb2.out.size
  have HB2 := Lib.hid (hb1.trans (hb2.out.mono hs1))
  have HT2 := Lib.hid (HT.out w2 (hR1.below (hb2.out.mono (by omega))) (by omega))
  have hlt2 := HA2.out.lt
  clear hb2 hg2 hs2 HA hR1 hb1 HT
  refine HT2.out.mono ?_
  rintro e W3 ⟨rfl, hb3⟩
  have HA3 := Lib.hid (HA2.out.below hb3 hlt2)
  have HN := Lib.hid ((heap_alloc_new W3 _ : Blk 79 (W3.alloc (.cells #[.int .i64 0, .int .i64 0, .int .i64 0, .int .i64 0] 79)) W3.heap.size [0, 0, 0, 0]))
  have hs3 := hb3.size
  have HB3 := Lib.hid (HB2.out.trans (hb3.mono (by omega)))
  clear HT2 HA2 HB2 hb3
  obtain ⟨a0, a1, a2, a3, a4, a5, a6, rfl⟩ := seven H7.out
  obtain ⟨x, y, z, u, rfl⟩ := of_four HQ3.out
  generalize hG : W1.heap.size = G at *
  cases rb with
  | false =>
    go_wp2_with (refine store_blk rfl 79 4 readParting_size _ _ rfl W3.heap.size [0, 0, 0, 0] [x, y, z, u] rfl rfl rfl rfl HN ?_; intro w4 HT4 hg4 hs4)
    go_ret
    exact ⟨rfl, (HB3.out.alloc (by omega) _).grown hg4 (by simp; omega) (by simp; omega)⟩
  | true =>
    cases tb with
    | false =>
      go_wp2_with (refine store_blk rfl 79 4 readParting_size _ _ rfl W3.heap.size [0, 0, 0, 0] [x, y, z, u] rfl rfl rfl rfl HN ?_; intro w4 HT4 hg4 hs4)
      go_ret
      exact ⟨rfl, (HB3.out.alloc (by omega) _).grown hg4 (by simp; omega) (by simp; omega)⟩
    | true =>
      obtain ⟨x', y', z', u', rfl, e2, e3, g1, g7, gp, gx, gy, gz, gu⟩ := HG.out rfl rfl
      injection e3 with e4 e5
      injection e5 with e5 e6
      injection e6 with e6 e7
      injection e7 with e7 _
      subst e4; subst e5; subst e6; subst e7
      have HH := Lib.hid (fun W => parts_any l x y z u W g1 g7 gp gx gy gz gu)
      unfold agp at HH
      rw [← e2] at HH
      obtain ⟨r, hr⟩ : ∃ r, r = partB l [x, y, z, u] := ⟨_, rfl⟩
      rw [← hr] at HH
      have HRR := Lib.hid hr
      clear hr e2 gp gx gy gz gu HG HP HTT HRB HTB HX
      go_wp2_with (first
        | (refine store_blk rfl 79 4 readParting_size _ _ rfl W3.heap.size [0, 0, 0, 0] [x, y, z, u] rfl rfl rfl rfl HN ?_; intro w4 HT4 hg4 hs4; have HA4 := (HA3.out.alloc (.cells #[.int .i64 0, .int .i64 0, .int .i64 0, .int .i64 0] 79)).grown hg4 (by have := HA3.out.lt; omega); obtain ⟨d0, d1, d2, d3, d4, d5, d6⟩ := cells7 HA4; have t0 := HT4.out.cell (i := 0) (by simp); have t1 := HT4.out.cell (i := 1) (by simp); have t2 := HT4.out.cell (i := 2) (by simp); have t3 := HT4.out.cell (i := 3) (by simp); simp only [List.getD_cons_zero, List.getD_cons_succ] at t0 t1 t2 t3; clear HA4)
        | (go_at_call 62; refine (HH.out _).mono ?_; rintro e w5 ⟨rfl, hb5⟩))
      go_ret
      exact ⟨by rw [← HRR.out]; rfl, ((HB3.out.alloc (by omega) _).grown hg4 (by simp; omega) (by simp; omega)).trans (hb5.mono (by rw [hs4]; simp; omega))⟩
end Go.Proofs.Ytamnacgclhaggaa
