/- Whether a ring has a pattern at a set, at how many sets it has it: the model. -/
import Derived.Test.YtphffefkjbgibabDoorPnS
namespace Go.Proofs.YtphffefkjbgibabDoor
open Go.ChangeShapes Go.WideShapes Go.ChangeAt Go.RowKit

theorem two8S_any (A0 : Option Addr) (n0 c0 : Nat) (A1 : Option Addr) (n1 c1 H : Nat) (l0 l1 : List Int) (w : World) (h0 : Rd w H A0 n0 l0) (h1 : Rd w H A1 n1 l1) (hn0 : n0 ≤ 1048576) (hn1 : n1 ≤ 1048576) :
    Calls Tryd.prog 27 #[.slice A0 n0 c0, .slice A1 n1 c1] w fun e w' => e = .returned (.bool (two8 l0 l1)) ∧ w = w' := by
  have HR0 := Lib.hid (ringS_any A0 n0 c0 H l0 w h0 hn0)
  have HR1 := Lib.hid (ringS_any A1 n1 c1 H l1 w h1 hn1)
  have L0 := h0.len
  have L1 := h1.len
  have HT : Hid (two8 l0 l1 = (ringB l0 && (ringB l1 && decide ((n1 : Int) ≤ (n0 : Int))))) := by
    rw [Hid, two8, ringB, ringB, ← Bool.decide_and, ← Bool.decide_and, decide_eq_decide, Two8, L0, L1]
    exact ⟨fun h => ⟨h.1, h.2.1, by have := h.2.2; omega⟩, fun h => ⟨h.1, h.2.1, by have := h.2.2; omega⟩⟩
  rw [HT.out]
  clear h0 h1 HT L0 L1
  generalize ringB l0 = b0 at *
  generalize ringB l1 = b1 at *
  cases b0 with
  | false =>
    go_enter Tryd.func27, Tryd.ntmps27
    go_wp2_with (go_at_call_of 33 (Value.slice A0 n0 c0); refine HR0.out.mono ?_; rintro e w' ⟨rfl, rfl⟩)
    go_ret
    exact ⟨rfl, rfl⟩
  | true =>
    cases b1 with
    | false =>
      go_enter Tryd.func27, Tryd.ntmps27
      go_wp2_with (first
        | (go_at_call_of 33 (Value.slice A0 n0 c0); refine HR0.out.mono ?_; rintro e w' ⟨rfl, rfl⟩)
        | (go_at_call_of 33 (Value.slice A1 n1 c1); refine HR1.out.mono ?_; rintro e w' ⟨rfl, rfl⟩))
      go_ret
      exact ⟨rfl, rfl⟩
    | true =>
      go_enter Tryd.func27, Tryd.ntmps27
      go_wp2_with (first
        | (go_at_call_of 33 (Value.slice A0 n0 c0); refine HR0.out.mono ?_; rintro e w' ⟨rfl, rfl⟩)
        | (go_at_call_of 33 (Value.slice A1 n1 c1); refine HR1.out.mono ?_; rintro e w' ⟨rfl, rfl⟩))
      go_ret
      exact ⟨by first | rfl | simp, rfl⟩

set_option maxHeartbeats 1000000 in
theorem at8_any (A0 : Option Addr) (n0 c0 : Nat) (A1 : Option Addr) (n1 c1 H : Nat) (l p : List Int) (s : Nat) (w : World) (h0 : Rd w H A0 n0 l) (h1 : Rd w H A1 n1 p) (hH : H ≤ w.heap.size) (ht : Tell l) (hp : Tell p) (hs : s < 2 ^ l.length) :
    Calls Tryd.prog 30 #[.slice A0 n0 c0, .slice A1 n1 c1, .int .i64 (s : Int)] w fun e w' => e = .returned (.bool (atN l p s)) ∧ Below w.heap.size w w' := by
  have HS := Lib.hid (fun W => size8_any s W (fits s l.length ht.2.1 hs))
  have L1 := h1.len
  by_cases hz : sizN s = p.length
  · have hz' : ((sizN s : Int) == (n1 : Int)) = true := by rw [hz, L1]; simp
    have HO := Lib.hid (of8_any A0 n0 c0 H l s w h0 hH ht (siz_pos hz (by have := hp.1; omega)) hs)
    have hn1 : n1 ≤ 7 := by rw [← L1]; exact hp.2.1
    have hpl : (patL l s).length ≤ 7 := by rw [pat_length ht hs]; exact siz_le s
    have HE := Lib.hid (fun (A : Option Addr) (c : Nat) (W : World) (hW : Rd W W.heap.size A (patL l s).length (patL l s)) (kW : Rd W W.heap.size A1 n1 p) => equalS_drew A A1 (patL l s).length n1 c c1 _ p W.heap.size W hW kW (by omega) (by omega))
    have HQ : Hid (same (patL l s) p = atN l p s) := rfl
    rw [HQ.out] at HE
    have HK := Lib.hid h1
    generalize atN l p s = r at *
    generalize patL l s = R at *
    generalize sizN s = z at *
    clear h0 h1 hz ht hp hs L1 hpl hn1 HQ
    go_enter Tryd.func30, Tryd.ntmps30
    go_wp2_with (go_at_call 53; refine (HS.out _).mono ?_; rintro e w' ⟨rfl, rfl⟩)
    refine HO.out.mono ?_
    rintro e w1 ⟨v1, rfl, ho1, hb1⟩
    obtain ⟨A, c, rfl⟩ := ho1.slice
    have HC := Lib.hid (HE.out A c w1 ho1.rd.2 ((HK.out.below (hb1.mono hH)).more (Nat.le_trans hH hb1.size)))
    have HB := Lib.hid hb1
    clear ho1 hb1 HO HS HE HK
    go_wp2_with fail
    refine HC.out.mono ?_
    rintro e w2 ⟨rfl, q, rfl⟩
    go_wp2
    go_ret
    exact ⟨rfl, below_drewN HB.out _⟩
  · have hz' : ((sizN s : Int) == (n1 : Int)) = false := by rw [← L1]; simp; omega
    have HQ : Hid (atN l p s = false) := at_siz ht hs hz
    rw [HQ.out]
    generalize sizN s = z at *
    clear h0 h1 hz ht hp hs L1
    go_enter Tryd.func30, Tryd.ntmps30
    go_wp2_with (go_at_call 53; refine (HS.out _).mono ?_; rintro e w' ⟨rfl, rfl⟩)
    go_ret
    exact ⟨rfl, Below.refl _ _⟩
end Go.Proofs.YtphffefkjbgibabDoor
