/- How many arcs a set comes apart into, the first and the last point of an arc: the program. -/
import Derived.Test.YtknjioibmgkpmaaArI
import Derived.Test.YtknjioibmgkpmaaArE
import Derived.Deep.QuietTactic
namespace Go.Proofs.Ytknjioibmgkpmaa
open Go.ChangeShapes Go.WideShapes Go.ChangeAt Go.RowKit

set_option maxHeartbeats 1000000 in
theorem runsI_any (A : Option Addr) (n c H : Nat) (l : List Int) (s : Int) (w : World) (h : Rd w H A n l) (hH : H ≤ w.heap.size) (hn : n ≤ 1048576) (hnc : n ≤ c) (hcm : c ≤ 9223372036854775807) :
    Calls Try.prog 32 #[.slice A n c, .int .i64 s] w fun e w' => e = .returned (.tuple #[.int .i64 (runR l s), .bool (setB l s)]) ∧ Below w.heap.size w w' := by
  by_cases hs : SetL l s
  · obtain ⟨k, rfl, hk, h128⟩ := hs.nat
    have HR := Lib.hid (readSet_yes A n c H l k w h hH hn hnc hcm hs)
    have HA := Lib.hid (fun (g : Nat → Nat) (b D : Nat) (V : World) (h1 : Lnk V D g l) (h2 : SetC V b k) => runs_any l k b D g V h1 (by have := hs.1.1.1; omega) hs.1.1.2.1 hs.bd h128 h2)
    have HE : Hid (runR l (k : Int) = (runN (hasN k) l : Int)) := by rw [Hid, runR, set_yes hs, Int.toNat_natCast]; rfl
    have HG : Hid (∀ g : Nat → Nat, ((runP (hasN k) l l.length).map g).length = runN (hasN k) l) := fun g => by rw [List.length_map, runN]
    rw [HE.out, set_yes hs]
    generalize runN (hasN k) l = r at *
    generalize runP (hasN k) l l.length = rl at *
    clear h hs hk h128 HE
    go_enter Try.func32, Try.ntmps32
    go_wp2_with fail
    refine HR.out.mono ?_
    rintro e w1 ⟨g, b, rfl, hl1, hc1, hb1⟩
    have HB1 := Lib.hid hb1
    have HA1 := Lib.hid (HA.out g b _ w1 hl1 hc1)
    clear hl1 hc1 hb1
    go_wp2_with fail
    refine HA1.out.mono ?_
    rintro e w2 ⟨v2, rfl, ho2, hb2⟩
    have HB2 := Lib.hid (HB1.out.trans (hb2.mono HB1.out.size))
    obtain ⟨A2, c2, rfl⟩ := ho2.slice
    rw [HG.out]
    clear hb2 ho2
    go_wp2
    go_ret2
    exact ⟨rfl, HB2.out⟩
  · have HR := Lib.hid (readSet_no A n c H l s w h hH hn hnc hcm hs)
    have HE : Hid (runR l s = 0) := by rw [Hid, runR, set_no hs]; rfl
    rw [HE.out, set_no hs]
    clear h hs HE
    go_enter Try.func32, Try.ntmps32
    go_wp2_with fail
    refine HR.out.mono ?_
    rintro e w1 ⟨rfl, hb1⟩
    go_wp2
    go_ret2
    exact ⟨rfl, hb1⟩

theorem end_there (p : Int → Bool) (l : List Int) (j : Nat) (hj : j < l.length) (hj1 : p (l.getD j 0) = true) : ∀ d, p (l.getD ((j + d) % l.length) 0) = false → ∃ i, i < l.length ∧ p (l.getD i 0) = true ∧ p (l.getD ((i + 1) % l.length) 0) = false
  | 0, hd => by rw [Nat.add_zero, Nat.mod_eq_of_lt hj, hj1] at hd; cases hd
  | d + 1, hd => by
    cases h : p (l.getD ((j + d) % l.length) 0) with
    | false => exact end_there p l j hj hj1 d h
    | true => exact ⟨_, Nat.mod_lt _ (by omega), h, by rw [Nat.mod_add_mod]; exact hd⟩

set_option maxRecDepth 10000 in
set_option maxHeartbeats 1000000 in
theorem endsI_any (A : Option Addr) (n c H : Nat) (l : List Int) (s : Int) (w : World) (h : Rd w H A n l) (hH : H ≤ w.heap.size) (hn : n ≤ 1048576) (hnc : n ≤ c) (hcm : c ≤ 9223372036854775807) :
    Calls Try.prog 14 #[.slice A n c, .int .i64 s] w fun e w' => e = .returned (.tuple #[.int .i64 (firR l s), .int .i64 (finR l s), .bool (arcB l s)]) ∧ Below w.heap.size w w' := by
  by_cases hs : SetL l s
  · obtain ⟨k, rfl, hk, h128⟩ := hs.nat
    have HR := Lib.hid (readSet_yes A n c H l k w h hH hn hnc hcm hs)
    have HA := Lib.hid (fun (g : Nat → Nat) (b D : Nat) (V : World) (h1 : Lnk V D g l) (h2 : SetC V b k) => isArc_any l k b D g V h1 (by have := hs.1.1.1; omega) hs.1.1.2.1 hs.bd h128 h2)
    have HE : Hid (arcB l (k : Int) = decide (runN (hasN k) l = 1)) := by rw [Hid, arcB, set_yes hs, Bool.true_and, Int.toNat_natCast]
    by_cases h1 : runN (hasN k) l = 1
    · obtain ⟨j, hj, hjl, hjp, hjf, d, hd, _, hdp⟩ := firstA_run h1
      obtain ⟨i, hi, hi1, hi2⟩ := end_there (hasN k) l j hjl hjp d hdp
      have hfin := finA_end hs.1.1.2.1 h1 hi hi1 hi2
      have HRU := Lib.hid (fun (g : Nat → Nat) (b D : Nat) (V : World) (h1 : Lnk V D g l) (h2 : SetC V b k) => runs_any l k b D g V h1 (by have := hs.1.1.1; omega) hs.1.1.2.1 hs.bd h128 h2)
      have HEN : Hid (∀ (g : Nat → Nat) (b D : Nat) (V : World), Lnk V D g l → SetC V b k → Calls Try.prog 41 #[.pointer (some ⟨g j, 0, none⟩), askV b] V fun e w' => e = .returned (.pointer (some ⟨g i, 0, none⟩)) ∧ w' = V) := fun g b D V hV hc => by
        refine (end_any l k b D g j d V hV (by have := hs.1.1.1; omega) hs.bd h128 hc hjl hjp hdp).mono ?_
        rintro e w' ⟨⟨i', hi', h1', h2', rfl⟩, rfl⟩
        obtain rfl : i' = i := one_end hs.1.1.2.1 h1 hi' hi (by rw [fins, h1', h2']; rfl) (by rw [fins, hi1, hi2]; rfl)
        exact ⟨rfl, rfl⟩
      rw [hj] at HRU
      have E1 : Hid (arcB l (k : Int) = true ∧ firR l (k : Int) = l.getD j 0 ∧ finR l (k : Int) = l.getD i 0) := by
        have e : arcB l (k : Int) = true := by rw [HE.out, h1]; rfl
        exact ⟨e, by rw [firR, if_pos e, Int.toNat_natCast, hjf], by rw [finR, if_pos e, Int.toNat_natCast, hfin]⟩
      rw [E1.out.1, E1.out.2.1, E1.out.2.2]
      have hd1 : decide (runN (hasN k) l = 1) = true := by rw [h1]; rfl
      rw [hd1] at HA
      have HJ := Lib.hid hjl
      have HI := Lib.hid hi
      clear h hs hk h128 HE E1 hd1 h1 hj hjl hjp hjf hd hdp hi hi1 hi2 hfin
      obtain ⟨x, hx⟩ : ∃ x, x = l.getD j 0 := ⟨_, rfl⟩
      obtain ⟨y, hy⟩ : ∃ y, y = l.getD i 0 := ⟨_, rfl⟩
      have HX := Lib.hid hx
      have HY := Lib.hid hy
      rw [← hx, ← hy]
      clear hx hy
      go_enter Try.func14, Try.ntmps14
      go_wp2_with fail
      refine HR.out.mono ?_
      rintro e w1 ⟨g, b, rfl, hl1, hc1, hb1⟩
      have HB1 := Lib.hid hb1
      have HL1 := Lib.hid hl1
      have HC1 := Lib.hid hc1
      have HA1 := Lib.hid (HA.out g b _ w1 hl1 hc1)
      clear hl1 hc1 hb1
      go_wp2_with fail
      refine HA1.out.mono ?_
      rintro e w2 ⟨rfl, hb2⟩
      have HB2 := Lib.hid (HB1.out.trans (hb2.mono HB1.out.size))
      have HL2 := Lib.hid (HL1.out.below hb2 (Nat.le_refl _))
      have HC2 := Lib.hid (HC1.out.below hb2 HC1.out.1)
      have HRU2 := Lib.hid (HRU.out g b _ w2 HL2.out HC2.out)
      clear hb2 HB1 HL1 HC1 HA HA1 HRU
      go_wp2_with fail
      refine HRU2.out.mono ?_
      rintro e w3 ⟨v3, rfl, ho3, hb3⟩
      have HB3 := Lib.hid (HB2.out.trans (hb3.mono HB2.out.size))
      have HL3 := Lib.hid (HL2.out.below hb3 (Nat.le_refl _))
      have HC3 := Lib.hid (HC2.out.below hb3 HC2.out.1)
      obtain ⟨b3, c3, rfl, hcell⟩ := ho3.head
      have HEN3 := Lib.hid (fun m : Nat => HEN.out g b _ (w3.drewN m) (HL3.out.drewN m) HC3.out)
      have hcx := (HL3.out.at_ j HJ.out).c0
      have hcy := (HL3.out.at_ i HI.out).c0
      rw [← HX.out] at hcx
      rw [← HY.out] at hcy
      clear hb3 HB2 HL2 HC2 HEN HRU2 ho3
      go_wp2_with fail
      go_quiet (refine Calls.quiet_of_same (HEN3.out _))
      go_wp2
      go_ret3
      exact ⟨rfl, below_drewN HB3.out _⟩
    · have hd1 : decide (runN (hasN k) l = 1) = false := by simpa using h1
      rw [hd1] at HE HA
      have E1 : Hid (firR l (k : Int) = 0 ∧ finR l (k : Int) = 0) := ⟨by rw [firR, HE.out]; rfl, by rw [finR, HE.out]; rfl⟩
      rw [HE.out, E1.out.1, E1.out.2]
      clear h hs hk h128 HE h1 hd1 E1
      go_enter Try.func14, Try.ntmps14
      go_wp2_with fail
      refine HR.out.mono ?_
      rintro e w1 ⟨g, b, rfl, hl1, hc1, hb1⟩
      have HB1 := Lib.hid hb1
      have HA1 := Lib.hid (HA.out g b _ w1 hl1 hc1)
      clear hl1 hc1 hb1
      go_wp2_with fail
      refine HA1.out.mono ?_
      rintro e w2 ⟨rfl, hb2⟩
      have HB2 := Lib.hid (HB1.out.trans (hb2.mono HB1.out.size))
      clear hb2
      go_wp2
      go_ret3
      exact ⟨rfl, HB2.out⟩
  · have HR := Lib.hid (readSet_no A n c H l s w h hH hn hnc hcm hs)
    have HE : Hid (arcB l s = false) := by rw [Hid, arcB, set_no hs]; rfl
    have E1 : Hid (firR l s = 0 ∧ finR l s = 0) := ⟨by rw [firR, HE.out]; rfl, by rw [finR, HE.out]; rfl⟩
    rw [HE.out, E1.out.1, E1.out.2]
    clear h hs HE E1
    go_enter Try.func14, Try.ntmps14
    go_wp2_with fail
    refine HR.out.mono ?_
    rintro e w1 ⟨rfl, hb1⟩
    go_wp2
    go_ret3
    exact ⟨rfl, hb1⟩

theorem isS_law (A : Option Addr) (n c H : Nat) (l : List Int) (s : Int) (w : World) (h : Rd w H A n l) (_ : H ≤ w.heap.size) (hn : n ≤ 1048576) :
    Calls Try.prog 17 #[.slice A n c, .int .i64 s] w fun e w' => e = .returned (.bool (arcB l s)) ∧ Below w.heap.size w w' :=
  (isS_any A n c H l s w h hn).mono fun _ _ ⟨h1, h2⟩ => ⟨h1, h2 ▸ Below.refl _ _⟩
theorem runsS_law (A : Option Addr) (n c H : Nat) (l : List Int) (s : Int) (w : World) (h : Rd w H A n l) (_ : H ≤ w.heap.size) (hn : n ≤ 1048576) :
    Calls Try.prog 31 #[.slice A n c, .int .i64 s] w fun e w' => e = .returned (.tuple #[.int .i64 (runR l s), .bool (setB l s)]) ∧ Below w.heap.size w w' :=
  (runsS_any A n c H l s w h hn).mono fun _ _ ⟨h1, h2⟩ => ⟨h1, h2 ▸ Below.refl _ _⟩
theorem endsS_law (A : Option Addr) (n c H : Nat) (l : List Int) (s : Int) (w : World) (h : Rd w H A n l) (_ : H ≤ w.heap.size) (hn : n ≤ 1048576) :
    Calls Try.prog 15 #[.slice A n c, .int .i64 s] w fun e w' => e = .returned (.tuple #[.int .i64 (firR l s), .int .i64 (finR l s), .bool (arcB l s)]) ∧ Below w.heap.size w w' :=
  (endsS_any A n c H l s w h hn).mono fun _ _ ⟨h1, h2⟩ => ⟨h1, h2 ▸ Below.refl _ _⟩
end Go.Proofs.Ytknjioibmgkpmaa
