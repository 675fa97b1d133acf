/- PairChords of the model and of the program. -/
import Derived.Test.YtamnacgclhaggaaChI
import Derived.Test.YtamnacgclhaggaaMA
namespace Go.Proofs.Ytamnacgclhaggaa
open Go.ChangeShapes Go.WideShapes Go.ChangeAt Go.RowKit

def pcB (l : List Int) (L : List (List Int)) : Bool := ringB l && choB l.length L
def pcR (l : List Int) (L : List (List Int)) : Int := if pcB l L then (chN l L : Nat) else 0

set_option maxHeartbeats 1000000 in
theorem pcS_any (A : Option Addr) (n c : Nat) (A' : Option Addr) (m d H : Nat) (l : List Int) (L : List (List Int)) (w : World) (h : Rd w H A n l) (h' : RdS w H A' m L) (hH : H ≤ w.heap.size) (hn : n ≤ 1048576) (hm : tot L ≤ 1048576) :
    Calls Try.prog 36 #[.slice A n c, .slice A' m d] w fun e w' => e = .returned (.tuple #[.int .i64 (pcR l L), .bool (pcB l L)]) ∧ Below w.heap.size w w' := by
  have HL := Lib.hid h.len
  have HR := Lib.hid (ringS_any A n c H l w h hn)
  have hm' : m ≤ 1048576 := by have := h'.len; unfold tot at hm; omega
  by_cases hr : Ring l
  · have h3 := hr.1.1
    have h7 := hr.1.2.1
    rw [HL.out] at h3 h7
    have HC := Lib.hid (l3Chords_any A' m d H L (n : Int) w h' hm' (by omega) (by omega))
    rw [ring_yes hr] at HR
    cases hc : choB (n : Int) L
    · rw [hc] at HC
      have hv : Hid (pcB l L = false ∧ pcR l L = 0) := by
        have e : pcB l L = false := by rw [pcB, HL.out, hc]; simp
        exact ⟨e, by rw [pcR, e]; simp⟩
      rw [hv.out.1, hv.out.2]
      clear hr hc h h' hv
      go_enter Try.func36, Try.ntmps36
      go_wp2_with (first
        | (go_at_call 45; refine HR.out.mono ?_; rintro e w' ⟨rfl, rfl⟩)
        | (go_at_call 79; refine HC.out.mono ?_; rintro e w' ⟨rfl, p, rfl⟩))
      go_ret2
      exact ⟨rfl, below_drewN (Below.refl _ _) _⟩
    · rw [hc] at HC
      have hcy := cho_yes hc
      have HK := Lib.hid (fun q => l3Count_any A n c H l A' m d L (w.drewN q) (h.drewN q) (h'.drewN q) hH hr.1 (by have := h'.len; omega) hcy.2)
      have hv : Hid (pcB l L = true ∧ pcR l L = (chN l L : Nat)) := by
        have e : pcB l L = true := by rw [pcB, HL.out, hc, ring_yes hr]; simp
        exact ⟨e, by rw [pcR, e]; simp⟩
      rw [hv.out.1, hv.out.2]
      generalize chN l L = r at *
      clear hr hc h h' hv hcy
      go_enter Try.func36, Try.ntmps36
      go_wp2_with (first
        | (go_at_call 45; refine HR.out.mono ?_; rintro e w' ⟨rfl, rfl⟩)
        | (go_at_call 79; refine HC.out.mono ?_; rintro e w' ⟨rfl, p, rfl⟩)
        | (go_at_call 80; refine (HK.out _).mono ?_; rintro e w2 ⟨rfl, hb2⟩))
      go_ret2
      exact ⟨rfl, (below_drewN (Below.refl _ _) _).trans hb2⟩
  · rw [ring_no hr] at HR
    have hv : Hid (pcB l L = false ∧ pcR l L = 0) := by
      have e : pcB l L = false := by rw [pcB, ring_no hr]; simp
      exact ⟨e, by rw [pcR, e]; simp⟩
    rw [hv.out.1, hv.out.2]
    clear hr h h' hv
    go_enter Try.func36, Try.ntmps36
    go_wp2_with (go_at_call 45; refine HR.out.mono ?_; rintro e w' ⟨rfl, rfl⟩)
    go_ret2
    exact ⟨rfl, Below.refl _ _⟩

set_option maxHeartbeats 1000000 in
theorem readPairs_any (A : Option Addr) (m c H : Nat) (L : List (List Int)) (n : Int) (w : World) (h : RdS w H A m L) (hH : H ≤ w.heap.size) :
    Calls Try.prog 77 #[.int .i64 n, .slice A m c] w fun e w' => ∃ v M, e = .returned (.tuple #[v, .bool (choB n L)]) ∧ RowN w' w.heap.size 77 2 v M ∧ (choB n L = true → M = L) ∧ Below w.heap.size w w' := by
  have HL := Lib.hid h.len
  by_cases hm : m ≤ 8
  · have hm' : decide ((8 : Int) < (m : Int)) = false := by simp; omega
    have T1 : Hid (choB n L = allB (two n) L) := by rw [Hid, choB, HL.out]; simp [hm]
    have HE := Lib.hid (each_two A m c H L n w h hH (by omega))
    rw [T1.out]
    have HM : Hid (allB (two n) L = true → allL (two n) L = L) := fun hh => by rw [allL, if_pos hh]
    generalize allB (two n) L = r at *
    generalize allL (two n) L = M at *
    clear h T1
    go_enter Try.func77, Try.ntmps77
    go_wp2_with fail
    refine HE.out.mono ?_
    rintro e w1 ⟨v, rfl, hv, hb1⟩
    have HV := Lib.hid hv
    have HB := Lib.hid hb1
    clear hv hb1 HE
    go_wp2
    go_ret2
    exact ⟨v, M, rfl, HV.out, HM.out, HB.out⟩
  · have hm' : decide ((8 : Int) < (m : Int)) = true := by simp; omega
    have T1 : Hid (choB n L = false) := by rw [Hid, choB, HL.out]; simp [hm]
    rw [T1.out]
    clear h hm T1
    go_enter Try.func77, Try.ntmps77
    go_wp2
    go_ret2
    exact ⟨.slice none 0 0, [], rfl, ⟨by simp, World.ownsRow_nil _ _ _ _⟩, fun hh => by (cases hh), Below.refl _ _⟩

set_option maxRecDepth 10000 in
set_option maxHeartbeats 2000000 in
theorem pcI_any (A : Option Addr) (n c : Nat) (A' : Option Addr) (m d H : Nat) (l : List Int) (L : List (List Int)) (w : World) (h : Rd w H A n l) (h' : RdS w H A' m L) (hH : H ≤ w.heap.size) (hn : n ≤ 1048576) (_ : tot L ≤ 1048576) (hnc : n ≤ c) (hcm : c ≤ 9223372036854775807) :
    Calls Try.prog 35 #[.slice A n c, .slice A' m d] w fun e w' => e = .returned (.tuple #[.int .i64 (pcR l L), .bool (pcB l L)]) ∧ Below w.heap.size w w' := by
  have HL := Lib.hid h.len
  have HR := Lib.hid (readR_any A n c H l w h hH hn hnc hcm)
  have H7 := Lib.hid (ringP_length l)
  obtain ⟨P, hP⟩ : ∃ P, P = ringP l := ⟨_, rfl⟩
  have HT := Lib.hid (fun W (hR : RdS W H A' m L) (hW : H ≤ W.heap.size) => readPairs_any A' m d H L (n : Int) W hR hW)
  rw [← hP] at HR H7
  obtain ⟨rb, hrb⟩ : ∃ rb, rb = ringB l := ⟨_, rfl⟩
  obtain ⟨tb, htb⟩ : ∃ tb, tb = choB (n : Int) L := ⟨_, rfl⟩
  rw [← hrb] at HR
  rw [← htb] at HT
  have HX : Hid (pcB l L = (rb && tb)) := by rw [hrb, htb, ← HL.out]; rfl
  have HG : Hid (rb = true → tb = true → P = padR l ∧ Tell l ∧ L.length ≤ 8 ∧ ∀ t ∈ L, Two (l.length : Int) t) := by
    intro e1 e2
    have hr : Ring l := by rw [e1] at hrb; simpa [ringB] using hrb.symm
    have hc := cho_yes (show choB (n : Int) L = true by rw [← htb]; exact e2)
    exact ⟨by rw [hP, ringP, if_pos hr], hr.1, hc.1, by rw [HL.out]; exact hc.2⟩
  obtain ⟨r, hr⟩ : ∃ r, r = chN l L := ⟨_, rfl⟩
  have HV : Hid (pcR l L = if rb && tb then (r : Int) else (0 : Int)) := by rw [Hid, pcR, HX.out, hr]
  have HRR := Lib.hid hr
  clear hr
  rw [HV.out, HX.out]
  clear hP hrb htb h HL HX HV
  go_enter Try.func35, Try.ntmps35
  go_wp2_with fail
  refine HR.out.mono ?_
  rintro e W1 ⟨rfl, hb1⟩
  have HA := Lib.hid (new_ring W1)
  have hR1 := h'.below (hb1.mono hH)
  have hs1 := hb1.size
  clear HR h'
  go_wp2_with (refine store_ring rfl _ _ rfl W1.heap.size zero7 P rfl H7.out rfl rfl HA ?_; intro w2 HA2 hg2 hs2; clear hs2; have hb2 : Hid (Below W1.heap.size W1 w2) := Lib.hid (((Below.refl _ _).alloc (Nat.le_refl _) _).grown hg2 (by simp) (by simp)))
  have hs2' := hb2.out.size
  have HB2 := Lib.hid (hb1.trans (hb2.out.mono hs1))
  have HT2 := Lib.hid (HT.out w2 (hR1.below (hb2.out.mono (by omega))) (by omega))
  have hlt2 := HA2.out.lt
  clear hb2 hg2 HA hR1 hb1 HT
  refine HT2.out.mono ?_
  rintro e W3 ⟨v, M, rfl, hrow, hML, hb3⟩
  have HA3 := Lib.hid (HA2.out.below hb3 hlt2)
  have hs3 := hb3.size
  have HB3 := Lib.hid (HB2.out.trans (hb3.mono (by omega)))
  obtain ⟨Av, cv, e⟩ := hrow.slice
  have HROW := Lib.hid hrow
  have HML := Lib.hid hML
  clear HT2 HA2 HB2 hb3 hrow hML
  subst e
  cases rb with
  | false =>
    go_wp2
    go_ret2
    exact ⟨rfl, HB3.out⟩
  | true =>
    cases tb with
    | false =>
      go_wp2
      go_ret2
      exact ⟨rfl, HB3.out⟩
    | true =>
      obtain ⟨e2, gt, g8, gT⟩ := HG.out rfl rfl
      have eM := HML.out rfl
      subst eM
      have HH := Lib.hid (chords_any l (.slice Av M.length cv) w2.heap.size M W3 HROW.out gt g8 gT)
      unfold agp at HH
      rw [← e2] at HH
      rw [← HRR.out] at HH
      clear HRR
      generalize M.length = z at *
      clear e2 gt g8 gT HG HML HROW
      go_wp2_with (first
        | (refine load_ring rfl _ rfl W1.heap.size P H7.out rfl HA3 ?_)
        | (go_at_call 78; refine HH.out.mono ?_; rintro e w5 ⟨rfl, hb5⟩))
      go_ret2
      exact ⟨rfl, HB3.out.trans (hb5.mono (by omega))⟩
end Go.Proofs.Ytamnacgclhaggaa
