/- PatternBack, PatternAt, PatternOf of the model. -/
import Derived.Test.YtmfilnpbkonfaabDoorPnV
import Derived.Test.YtmfilnpbkonfaabDoorPR
namespace Go.Proofs.YtmfilnpbkonfaabDoor
open Go.ChangeShapes Go.WideShapes Go.ChangeAt Go.RowKit

/-- Whether a ring has a pattern at a number. -/
def paB (l p : List Int) (s : Int) : Bool := two8 l p && (setB l s && atN l p s.toNat)
def poB (l : List Int) (s : Int) : Bool := setB l s && decide (3 ≤ sizN s.toNat)
def poR (l : List Int) (s : Int) : List Int := if poB l s then patL l s.toNat else []
theorem poR_length (l : List Int) (s : Int) : (poR l s).length ≤ 7 := by
  unfold poR poB
  split
  · rename_i h
    rw [Bool.and_eq_true] at h
    have hs : SetL l s := by simpa [setB] using h.1
    obtain ⟨k, rfl, hk, _⟩ := hs.nat
    rw [Int.toNat_natCast, pat_length hs.1.1 hk]
    exact siz_le k
  · simp

set_option maxHeartbeats 1000000 in
theorem paS_any (A0 : Option Addr) (n0 c0 : Nat) (A1 : Option Addr) (n1 c1 H : Nat) (l0 l1 : List Int) (s : Int) (w : World) (h0 : Rd w H A0 n0 l0) (h1 : Rd w H A1 n1 l1) (hH : H ≤ w.heap.size) (hn0 : n0 ≤ 1048576) (hn1 : n1 ≤ 1048576) :
    Calls Tryd.prog 9 #[.slice A0 n0 c0, .slice A1 n1 c1, .int .i64 s] w fun e w' => e = .returned (.bool (paB l0 l1 s)) ∧ Below w.heap.size w w' := by
  have HT := Lib.hid (two8S_any A0 n0 c0 A1 n1 c1 H l0 l1 w h0 h1 hn0 hn1)
  have HS := Lib.hid (setS7_any A0 n0 c0 H l0 s w h0 hn0)
  by_cases ht : Two8 l0 l1
  · by_cases hs : SetL l0 s
    · obtain ⟨k, rfl, hk, h128⟩ := hs.nat
      have HA := Lib.hid (at8_any A0 n0 c0 A1 n1 c1 H l0 l1 k w h0 h1 hH ht.1.1 ht.2.1.1 hk)
      have HE : Hid (paB l0 l1 (k : Int) = atN l0 l1 k) := by rw [Hid, paB, two8_yes ht, set_yes hs, Int.toNat_natCast]; rfl
      rw [two8_yes ht] at HT
      rw [set_yes hs] at HS
      rw [HE.out]
      generalize atN l0 l1 k = r at *
      clear h0 h1 ht hs HE
      go_enter Tryd.func9, Tryd.ntmps9
      go_wp2_with (first
        | (go_at_call 33; refine HT.out.mono ?_; rintro e w' ⟨rfl, rfl⟩)
        | (go_at_call 34; refine HS.out.mono ?_; rintro e w' ⟨rfl, rfl⟩)
        | (go_at_call 35; refine HA.out.mono ?_; rintro e w1 ⟨rfl, hb1⟩))
      go_ret
      exact ⟨rfl, hb1⟩
    · have HE : Hid (paB l0 l1 s = false) := by rw [Hid, paB, two8_yes ht, set_no hs]; rfl
      rw [two8_yes ht] at HT
      rw [set_no hs] at HS
      rw [HE.out]
      clear h0 h1 ht hs HE
      go_enter Tryd.func9, Tryd.ntmps9
      go_wp2_with (first
        | (go_at_call 33; refine HT.out.mono ?_; rintro e w' ⟨rfl, rfl⟩)
        | (go_at_call 34; refine HS.out.mono ?_; rintro e w' ⟨rfl, rfl⟩))
      go_ret
      exact ⟨rfl, Below.refl _ _⟩
  · have HE : Hid (paB l0 l1 s = false) := by rw [Hid, paB, two8_no ht]; rfl
    rw [two8_no ht] at HT
    rw [HE.out]
    clear h0 h1 ht HE HS
    go_enter Tryd.func9, Tryd.ntmps9
    go_wp2_with (go_at_call 33; refine HT.out.mono ?_; rintro e w' ⟨rfl, rfl⟩)
    go_ret
    exact ⟨rfl, Below.refl _ _⟩

set_option maxHeartbeats 1000000 in
theorem poS_any (A : Option Addr) (n c H : Nat) (l : List Int) (s : Int) (w : World) (h : Rd w H A n l) (hH : H ≤ w.heap.size) (hn : n ≤ 1048576) :
    Calls Tryd.prog 17 #[.slice A n c, .int .i64 s] w fun e w' => ∃ v, e = .returned (.tuple #[v, .bool (poB l s)]) ∧ Own w' w.heap.size v (poR l s) ∧ Below w.heap.size w w' := by
  have HS := Lib.hid (setS7_any A n c H l s w h hn)
  have HN := Lib.hid (fun W => none_any W)
  by_cases hs : SetL l s
  · obtain ⟨k, rfl, hk, h128⟩ := hs.nat
    have HZ := Lib.hid (fun W => size8_any k W h128)
    rw [set_yes hs] at HS
    by_cases h3 : 3 ≤ sizN k
    · have E1 : poB l (k : Int) = true := by rw [poB, set_yes hs, Int.toNat_natCast, decide_eq_true h3]; rfl
      have E2 : poR l (k : Int) = patL l k := by rw [poR, if_pos E1, Int.toNat_natCast]
      have hO := of8_any A n c H l k w h hH hs.1.1 (siz_pos rfl (by omega)) hk
      rw [E1, E2]
      have HO := Lib.hid hO
      have hc : ¬ ((sizN k : Int) < 3) := by omega
      generalize patL l k = R at *
      generalize sizN k = z at *
      clear h hs hk h128 h3 E1 E2 hO
      go_enter Tryd.func17, Tryd.ntmps17
      go_wp2_with (first
        | (go_at_call 34; refine HS.out.mono ?_; rintro e w' ⟨rfl, rfl⟩)
        | (go_at_call 40; refine (HZ.out _).mono ?_; rintro e w' ⟨rfl, rfl⟩)
        | (go_at_call 42; refine HO.out.mono ?_; rintro e w1 ⟨v1, rfl, ho1, hb1⟩; have HO1 := Lib.hid ho1; obtain ⟨A1, c1, ev⟩ := ho1.slice; subst ev; clear ho1))
      go_ret2
      exact ⟨_, rfl, HO1.out, hb1⟩
    · have E1 : poB l (k : Int) = false := by rw [poB, set_yes hs, Int.toNat_natCast, decide_eq_false h3]; rfl
      have E2 : poR l (k : Int) = [] := by rw [poR, E1]; rfl
      rw [E1, E2]
      have hc : ((sizN k : Int) < 3) := by omega
      generalize sizN k = z at *
      clear h hs hk h128 h3 E1 E2
      go_enter Tryd.func17, Tryd.ntmps17
      go_wp2_with (first
        | (go_at_call 34; refine HS.out.mono ?_; rintro e w' ⟨rfl, rfl⟩)
        | (go_at_call 40; refine (HZ.out _).mono ?_; rintro e w' ⟨rfl, rfl⟩)
        | (go_at_call 41; refine (HN.out _).mono ?_; rintro e w1 ⟨v1, rfl, ho1, hb1⟩; have HO1 := Lib.hid ho1; obtain ⟨A1, c1, ev⟩ := ho1.slice; subst ev; clear ho1))
      go_ret2
      exact ⟨_, rfl, HO1.out, hb1⟩
  · have E1 : poB l s = false := by rw [poB, set_no hs]; rfl
    have E2 : poR l s = [] := by rw [poR, E1]; rfl
    rw [set_no hs] at HS
    rw [E1, E2]
    clear h hs E1 E2
    go_enter Tryd.func17, Tryd.ntmps17
    go_wp2_with (first
      | (go_at_call 34; refine HS.out.mono ?_; rintro e w' ⟨rfl, rfl⟩)
      | (go_at_call 41; refine (HN.out _).mono ?_; rintro e w1 ⟨v1, rfl, ho1, hb1⟩; have HO1 := Lib.hid ho1; obtain ⟨A1, c1, ev⟩ := ho1.slice; subst ev; clear ho1))
    go_ret2
    exact ⟨_, rfl, HO1.out, hb1⟩
end Go.Proofs.YtmfilnpbkonfaabDoor
