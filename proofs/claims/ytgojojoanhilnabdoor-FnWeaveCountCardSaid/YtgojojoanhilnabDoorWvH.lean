/- Whether a ring has a part: the model, the program. -/
import Derived.Test.YtgojojoanhilnabDoorWvS
import Derived.Test.YtgojojoanhilnabDoorWvN
namespace Go.Proofs.YtgojojoanhilnabDoor
open Go.ChangeShapes Go.WideShapes Go.ChangeAt Go.RowKit

theorem part_short (l : List Int) (s : Nat) (h : l.length ≤ 7) : (partL l s).length ≤ 7 := Nat.le_trans (part_length l s) h

set_option maxRecDepth 10000 in
set_option maxHeartbeats 1000000 in
theorem hasLS_any (A B : Option Addr) (n c m d H : Nat) (l p : List Int) (w : World) (h : Rd w H A n l) (k : Rd w H B m p) (hH : H ≤ w.heap.size) (ht : Tell l) (hp : Prt (l.length : Int) p) :
    Calls Tryd.prog 52 #[.slice A n c, .slice B m d] w fun e w' => e = .returned (.bool (hasL l p)) ∧ Below w.heap.size w w' := by
  have hml := hp.len
  have hk := k.len
  have hpw := mask_pow hp
  rw [Int.toNat_natCast] at hpw
  have HS := Lib.hid (setS_any B m d H p w k (by omega) hp.bd)
  have HPT := Lib.hid (partS_any A n c H l (maskN p) w h hH ht (mask_pos hp) hpw)
  have HE := Lib.hid (fun (A' : Option Addr) (n' c' : Nat) (W : World) (hW : Rd W W.heap.size A' n' (partL l (maskN p))) (kW : Rd W W.heap.size B m p) (hn' : n' ≤ 1048576) => equalS_drew A' B n' m c' d _ p W.heap.size W hW kW hn' (by omega))
  have HQ : Hid (same (partL l (maskN p)) p = hasL l p) := rfl
  rw [HQ.out] at HE
  have hsh := part_short l (maskN p) ht.2.1
  have HK := Lib.hid k
  clear h k hp hpw ht HQ
  generalize hasL l p = r at *
  generalize partL l (maskN p) = R at *
  generalize maskN p = s at *
  go_enter Tryd.func52, Tryd.ntmps52
  go_wp2_with fail
  refine HS.out.mono ?_
  rintro e w' ⟨rfl, rfl⟩
  go_wp2_with fail
  refine HPT.out.mono ?_
  rintro e w1 ⟨v1, rfl, ho1, hb1⟩
  obtain ⟨A1, c1, rfl⟩ := ho1.slice
  have hb1' := Lib.hid hb1
  have HC := Lib.hid (HE.out A1 _ c1 w1 ho1.rd.2 ((HK.out.below (hb1.mono hH)).more (Nat.le_trans hH hb1.size)) (by omega))
  clear ho1 hb1 HPT HS HK HE
  go_wp2_with fail
  refine HC.out.mono ?_
  rintro e w2 ⟨rfl, q, rfl⟩
  go_wp2
  go_ret
  exact ⟨rfl, below_drewN hb1'.out _⟩

attribute [local go_sem ↓] ldR_fold in
set_option maxRecDepth 10000 in
set_option maxHeartbeats 1000000 in
theorem hasLI_any (B : Option Addr) (m d H : Nat) (l p : List Int) (w : World) (k : Rd w H B m p) (hH : H ≤ w.heap.size) (ht : Tell l) (hp : Prt (l.length : Int) p) (hT : Tab w) :
    Calls Tryd.prog 29 #[agp l, .slice B m d] w fun e w' => e = .returned (.bool (hasL l p)) ∧ Below w.heap.size w w' := by
  have hml := hp.len
  have hk := k.len
  have hpw := mask_pow hp
  rw [Int.toNat_natCast] at hpw
  obtain ⟨W0, hW⟩ : ∃ W, W = w.alloc (.cells (ints (padR l)).toArray 49) := ⟨_, rfl⟩
  have HA0 : Hid (Arr W0 w.heap.size (padR l)) := by rw [hW]; exact heap_alloc_new w _
  have hb0 : Below w.heap.size w W0 := by rw [hW]; exact (Below.refl _ _).alloc (Nat.le_refl _) _
  have hs0 : W0.heap.size = w.heap.size + 1 := by rw [hW]; simp
  have hk0 : Rd W0 H B m p := k.below (hb0.mono hH)
  have HS := Lib.hid (setOf_any B m d H p W0.drew hk0.drew (by omega) hp.bd)
  have HPT := Lib.hid (part_any l (maskN p) W0.drew ht (mask_pos hp) hpw ((hT.on hb0).drewN 1))
  have HE := Lib.hid (fun (A' : Option Addr) (n' c' : Nat) (W : World) (hW : Rd W W.heap.size A' n' (partL l (maskN p))) (kW : Rd W W.heap.size B m p) (hn' : n' ≤ 1048576) => equalP_drew A' B n' m c' d _ p W.heap.size W hW kW hn' (by omega))
  have HQ : Hid (same (partL l (maskN p)) p = hasL l p) := rfl
  rw [HQ.out] at HE
  have hsh := part_short l (maskN p) ht.2.1
  have H7 := Lib.hid (padR_length l ht.2.1)
  have HK := Lib.hid hk0
  have HB0 := Lib.hid hb0
  clear k hp hpw ht HQ hk0 hb0 hT
  generalize hasL l p = r at *
  generalize partL l (maskN p) = R at *
  generalize maskN p = s at *
  unfold agp at HPT ⊢
  generalize padR l = P at *
  go_enter Tryd.func29, Tryd.ntmps29
  have l1 := ldR_run HA0.out.drew H7.out
  go_wp2_with fail
  rw [← hW]
  clear hW
  go_region_with (first
    | (go_at_call 59; refine HS.out.mono ?_; rintro e w' ⟨rfl, rfl⟩)
    | (go_at_call 61; refine HPT.out.mono ?_; rintro e w1 ⟨v1, rfl, hr1, hb1⟩
       obtain ⟨A1, c1, ev, _⟩ := hr1.2
       subst ev
       have hrd := hr1.1.rd.2
       have hs1 := hb1.size
       have HB1 := Lib.hid (HB0.out.drew.trans (hb1.mono (by simp; omega)))
       have HC := Lib.hid (HE.out A1 _ c1 w1 hrd ((HK.out.drew.below (hb1.mono (by simp; omega))).more (by simp at hs1; omega)) (by omega))
       clear hr1 hb1 hrd hs1)
    | (go_at_call 60; refine HC.out.mono ?_; rintro e w2 ⟨rfl, q, rfl⟩))
  all_goals
    go_wp2
    go_ret
    exact ⟨rfl, below_drewN HB1.out _⟩
end Go.Proofs.YtgojojoanhilnabDoor
