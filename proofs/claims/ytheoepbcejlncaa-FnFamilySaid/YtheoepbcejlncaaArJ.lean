/- How many arcs a set comes apart into, the first and the last point of an arc: the program. -/
import Derived.Test.YtheoepbcejlncaaArI
import Derived.Test.YtheoepbcejlncaaArE
import Derived.Deep.QuietTactic
namespace Go.Proofs.Ytheoepbcejlncaa
open Go.ChangeShapes Go.WideShapes Go.ChangeAt Go.RowKit

set_option maxHeartbeats 1000000 in
theorem runsI_any (A : Option Addr) (n c H : Nat) (l : List Int) (s : Int) (w : World) (h : Rd w H A n l) (hH : H ≤ w.heap.size) (hn : n ≤ 1048576) (hnc : n ≤ c) (hcm : c ≤ 9223372036854775807) :
    Calls Try.prog 16 #[.slice A n c, .int .i64 s] w fun e w' => e = .returned (.tuple #[.int .i64 (runR l s), .bool (setB l s)]) ∧ Below w.heap.size w w' := by
  by_cases hs : SetL l s
  · obtain ⟨k, rfl, hk, h128⟩ := hs.nat
    have HR := Lib.hid (readSet_yes A n c H l k w h hH hn hnc hcm hs)
    have HA := Lib.hid (fun (g : Nat → Nat) (b D : Nat) (V : World) (h1 : Lnk V D g l) (h2 : SetC V b k) => runs_any l k b D g V h1 (by have := hs.1.1.1; omega) hs.1.1.2.1 hs.bd h128 h2)
    have HE : Hid (runR l (k : Int) = (runN (hasN k) l : Int)) := by rw [Hid, runR, set_yes hs, Int.toNat_natCast]; rfl
    have HG : Hid (∀ g : Nat → Nat, ((runP (hasN k) l l.length).map g).length = runN (hasN k) l) := fun g => by rw [List.length_map, runN]
    rw [HE.out, set_yes hs]
    generalize runN (hasN k) l = r at *
    generalize runP (hasN k) l l.length = rl at *
    clear h hs hk h128 HE
    go_enter Try.func16, Try.ntmps16
    go_wp2_with fail
    refine HR.out.mono ?_
    rintro e w1 ⟨g, b, rfl, hl1, hc1, hb1⟩
    have HB1 := Lib.hid hb1
    have HA1 := Lib.hid (HA.out g b _ w1 hl1 hc1)
    clear hl1 hc1 hb1
    go_wp2_with fail
    refine HA1.out.mono ?_
    rintro e w2 ⟨v2, rfl, ho2, hb2⟩
    have HB2 := Lib.hid (HB1.out.trans (hb2.mono HB1.out.size))
    obtain ⟨A2, c2, rfl⟩ := ho2.slice
    rw [HG.out]
    clear hb2 ho2
    go_wp2
    go_ret2
    exact ⟨rfl, HB2.out⟩
  · have HR := Lib.hid (readSet_no A n c H l s w h hH hn hnc hcm hs)
    have HE : Hid (runR l s = 0) := by rw [Hid, runR, set_no hs]; rfl
    rw [HE.out, set_no hs]
    clear h hs HE
    go_enter Try.func16, Try.ntmps16
    go_wp2_with fail
    refine HR.out.mono ?_
    rintro e w1 ⟨rfl, hb1⟩
    go_wp2
    go_ret2
    exact ⟨rfl, hb1⟩

theorem end_there (p : Int → Bool) (l : List Int) (j : Nat) (hj : j < l.length) (hj1 : p (l.getD j 0) = true) : ∀ d, p (l.getD ((j + d) % l.length) 0) = false → ∃ i, i < l.length ∧ p (l.getD i 0) = true ∧ p (l.getD ((i + 1) % l.length) 0) = false
  | 0, hd => by rw [Nat.add_zero, Nat.mod_eq_of_lt hj, hj1] at hd; cases hd
  | d + 1, hd => by
    cases h : p (l.getD ((j + d) % l.length) 0) with
    | false => exact end_there p l j hj hj1 d h
    | true => exact ⟨_, Nat.mod_lt _ (by omega), h, by rw [Nat.mod_add_mod]; exact hd⟩

theorem isS_law (A : Option Addr) (n c H : Nat) (l : List Int) (s : Int) (w : World) (h : Rd w H A n l) (_ : H ≤ w.heap.size) (hn : n ≤ 1048576) :
    Calls Try.prog 14 #[.slice A n c, .int .i64 s] w fun e w' => e = .returned (.bool (arcB l s)) ∧ Below w.heap.size w w' :=
  (isS_any A n c H l s w h hn).mono fun _ _ ⟨h1, h2⟩ => ⟨h1, h2 ▸ Below.refl _ _⟩
theorem runsS_law (A : Option Addr) (n c H : Nat) (l : List Int) (s : Int) (w : World) (h : Rd w H A n l) (_ : H ≤ w.heap.size) (hn : n ≤ 1048576) :
    Calls Try.prog 32 #[.slice A n c, .int .i64 s] w fun e w' => e = .returned (.tuple #[.int .i64 (runR l s), .bool (setB l s)]) ∧ Below w.heap.size w w' :=
  (runsS_any A n c H l s w h hn).mono fun _ _ ⟨h1, h2⟩ => ⟨h1, h2 ▸ Below.refl _ _⟩
end Go.Proofs.Ytheoepbcejlncaa
