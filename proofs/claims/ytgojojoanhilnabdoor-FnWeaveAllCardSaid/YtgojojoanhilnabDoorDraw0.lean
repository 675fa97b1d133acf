/- The laws' drawer of numbers: what is picked is small enough; only the drawer's own variable turns. -/
import Derived.Test.YtgojojoanhilnabDoorMA
import Derived.Laws.BitsAllLaws
namespace Go.Proofs.YtgojojoanhilnabDoor
open Go.ChangeShapes Go.WideShapes Go.ChangeAt Go.RowKit

theorem i64_xor (a b : Nat) (ha : a < 1099511627776) (hb : b < 1099511627776) : bits .xor .i64 (a : Int) (b : Int) = ((a ^^^ b : Nat) : Int) := by
  have hx : a ^^^ b < 2 ^ 40 := Nat.xor_lt_two_pow (by omega) (by omega)
  have h1 : (BitVec.ofInt 64 (a : Int)).toNat = a := by
    rw [BitVec.ofInt_natCast, BitVec.toNat_ofNat]; exact Nat.mod_eq_of_lt (by omega)
  have h2 : (BitVec.ofInt 64 (b : Int)).toNat = b := by
    rw [BitVec.ofInt_natCast, BitVec.toNat_ofNat]; exact Nat.mod_eq_of_lt (by omega)
  show IntKind.i64.wrap ((BitVec.ofInt 64 (a : Int) ^^^ BitVec.ofInt 64 (b : Int)).toNat : Int) = _
  rw [BitVec.toNat_xor, h1, h2]
  exact IntWalk.i64_in _ (by omega)

/-- The bytes of a text that came in can be read. -/
def Byt (w : World) (H : Nat) (A : Option Addr) (n : Nat) : Prop := 0 < n → ∃ b o, A = some ⟨b, o, none⟩ ∧ b < H ∧ ∀ k, k < n → ∃ v : Nat, v < 256 ∧ w.cell? ⟨b, o + k, none⟩ = some (.int .u8 (v : Int))
/-- Block R is the drawer: its text, and how many numbers it has picked. -/
def RdAt (w : World) (R : Nat) (A : Option Addr) (n c p : Nat) : Prop := w.heap[R]? = some (.cells #[.slice A n c, .int .i64 (p : Int)] 83 (0, 0))
section
variable {w w' : World} {H R n c p : Nat} {A : Option Addr}
theorem Byt.keep (h : Byt w H A n) (hk : ∀ b o, b < H → w'.cell? ⟨b, o, none⟩ = w.cell? ⟨b, o, none⟩) : Byt w' H A n := fun hn => by
  obtain ⟨b, o, e, hb, hc⟩ := h hn
  refine ⟨b, o, e, hb, fun k hkn => ?_⟩
  obtain ⟨v, hv, hcv⟩ := hc k hkn
  exact ⟨v, hv, (hk b _ hb).trans hcv⟩
theorem Byt.below (h : Byt w H A n) (hb : Below H w w') : Byt w' H A n := h.keep fun _ _ hp => hb.cell hp
theorem RdAt.lt (h : RdAt w R A n c p) : R < w.heap.size := (Array.getElem?_eq_some_iff.1 h).1
theorem RdAt.same (h : RdAt w R A n c p) (hk : w'.heap[R]? = w.heap[R]?) : RdAt w' R A n c p := hk.trans h
theorem RdAt.c0 (h : RdAt w R A n c p) : w.cell? ⟨R, 0, none⟩ = some (.slice A n c) := by
  rw [cell_of_row w R 0 _ _ (0, 0) h]; rfl
theorem RdAt.c1 (h : RdAt w R A n c p) : w.cell? ⟨R, 1, none⟩ = some (.int .i64 (p : Int)) := by
  rw [cell_of_row w R 1 _ _ (0, 0) h]; rfl
theorem RdAt.frozen (h : RdAt w R A n c p) (i : Nat) : w.frozen? ⟨R, i, none⟩ = false := frozen_of_row w R i _ _ h
theorem RdAt.next (h : RdAt w R A n c p) : RdAt (w.setCell ⟨R, 1, none⟩ (.int .i64 ((p : Int) + 1))) R A n c (p + 1) := by
  have h' : w.heap[R]? = some (.cells #[.slice A n c, .int .i64 (p : Int)] 83 (0, 0)) := h
  simp [RdAt, World.setCell, Array.getElem?_modify, h']
end

set_option maxRecDepth 10000 in
set_option maxHeartbeats 2000000 in
theorem pick_any (R n c H p m : Nat) (A : Option Addr) (w : World) (hR : RdAt w R A n c p) (hb : Byt w H A n) (hH : H ≤ R) (hp : p ≤ 100000) (hn : n ≤ 2000) (hm1 : 1 ≤ m) (hm : m ≤ 1000) :
    Calls Tryd.prog 38 #[.pointer (some ⟨R, 0, none⟩), .int .i64 (m : Int)] w fun e w' => (∃ v : Nat, v < m ∧ e = .returned (.int .i64 (v : Int))) ∧ RdAt w' R A n c (p + 1) ∧ w.grownBy w' (some R) ∧ w'.heap.size = w.heap.size := by
  have c0 := hR.c0
  have c1 := hR.c1
  have f1 := hR.frozen 1
  have hw : IntKind.i64.wrap ((p : Int) + 1) = (p : Int) + 1 := IntWalk.i64_in _ (by omega)
  have HR := Lib.hid hR.next
  have HB := Lib.hid (hb.keep (w' := w.setCell ⟨R, 1, none⟩ (.int .i64 ((p : Int) + 1))) (fun b o hbH => (Below.setCell (Below.refl H w) (p := ⟨R, 1, none⟩) hH _).cell (p := ⟨b, o, none⟩) hbH))
  have HG : Hid (w.grownBy (w.setCell ⟨R, 1, none⟩ (.int .i64 ((p : Int) + 1))) (some R)) := ⟨rfl, rfl, rfl, by simp [World.setCell], fun k _ hk => Below.heap_setCell w _ _ k (by intro e; exact hk (by rw [e]))⟩
  have hlt := hR.lt
  clear hR hb
  have hw0 : IntKind.i64.wrap ((p : Int) + 1 - 1) = (p : Int) := by rw [show (p : Int) + 1 - 1 = (p : Int) by omega]; exact IntWalk.i64_in _ (by omega)
  have hwp : IntKind.i64.wrap (p : Int) = (p : Int) := IntWalk.i64_in _ (by omega)
  have d0 := HR.out.c0
  have d1 : (w.setCell ⟨R, 1, none⟩ (.int .i64 ((p : Int) + 1))).cell? ⟨R, 1, none⟩ = some (.int .i64 ((p : Int) + 1)) := by rw [HR.out.c1]; simp
  by_cases hn0 : n = 0
  · subst hn0
    clear HB
    go_enter Tryd.func38, Tryd.ntmps38
    go_wp2
    go_ret
    exact ⟨⟨0, by omega, rfl⟩, HR.out, HG.out, by simp [World.setCell]⟩
  · obtain ⟨b, o, e, hbH, hcs⟩ := HB.out (by omega)
    subst e
    have he0 : ((n : Int) == 0) = false := by simp; omega
    by_cases hpn : p < n
    · obtain ⟨v, hv, hcv⟩ := hcs p hpn
      have htm : Int.tmod (v : Int) (m : Int) = ((v % m : Nat) : Int) := by rw [Int.tmod_eq_emod_of_nonneg (by omega)]; simp
      have hvm : v % m < m := Nat.mod_lt _ (by omega)
      obtain ⟨r, hr⟩ : ∃ r, r = v % m := ⟨_, rfl⟩
      rw [← hr] at htm hvm
      clear hcs HB hr hn0
      go_enter Tryd.func38, Tryd.ntmps38
      go_wp2
      go_ret
      exact ⟨⟨r, hvm, rfl⟩, HR.out, HG.out, by simp [World.setCell]⟩
    · have hi1 : p % n < n := Nat.mod_lt _ (by omega)
      have hi2 : (p * 7 + 3) % n < n := Nat.mod_lt _ (by omega)
      obtain ⟨v1, hv1, hcv1⟩ := hcs _ hi1
      obtain ⟨v2, hv2, hcv2⟩ := hcs _ hi2
      have hj : p / n ≤ p := Nat.div_le_self _ _
      have t1 : Int.tmod (p : Int) (n : Int) = ((p % n : Nat) : Int) := by rw [Int.tmod_eq_emod_of_nonneg (by omega)]; simp
      have t2 : Int.tmod ((p : Int) * 7 + 3) (n : Int) = (((p * 7 + 3) % n : Nat) : Int) := by rw [Int.tmod_eq_emod_of_nonneg (by omega)]; simp
      have t3 : Int.tdiv (p : Int) (n : Int) = ((p / n : Nat) : Int) := by rw [Int.tdiv_eq_ediv_of_nonneg (by omega)]; simp
      obtain ⟨i1, hi1'⟩ : ∃ i, i = p % n := ⟨_, rfl⟩
      obtain ⟨i2, hi2'⟩ : ∃ i, i = (p * 7 + 3) % n := ⟨_, rfl⟩
      obtain ⟨j, hj'⟩ : ∃ j, j = p / n := ⟨_, rfl⟩
      rw [← hi1'] at t1 hi1 hcv1
      rw [← hi2'] at t2 hi2 hcv2
      rw [← hj'] at t3 hj
      clear hi1' hi2' hj' hcs HB hn0
      have x1 : IntKind.i64.wrap ((v1 : Int) * 131) = (v1 : Int) * 131 := IntWalk.i64_in _ (by omega)
      have x2 : IntKind.i64.wrap ((p : Int) * 7) = (p : Int) * 7 := IntWalk.i64_in _ (by omega)
      have x3 : IntKind.i64.wrap ((p : Int) * 7 + 3) = (p : Int) * 7 + 3 := IntWalk.i64_in _ (by omega)
      have x4 : IntKind.i64.wrap ((v2 : Int) * 1117) = (v2 : Int) * 1117 := IntWalk.i64_in _ (by omega)
      have x5 : IntKind.i64.wrap ((v1 : Int) * 131 + (v2 : Int) * 1117) = (v1 : Int) * 131 + (v2 : Int) * 1117 := IntWalk.i64_in _ (by omega)
      have x6 : IntKind.i64.wrap ((p : Int) * 29) = (p : Int) * 29 := IntWalk.i64_in _ (by omega)
      have x7 : IntKind.i64.wrap ((v1 : Int) * 131 + (v2 : Int) * 1117 + (p : Int) * 29) = (v1 : Int) * 131 + (v2 : Int) * 1117 + (p : Int) * 29 := IntWalk.i64_in _ (by omega)
      have x8 : IntKind.i64.wrap (j : Int) = (j : Int) := IntWalk.i64_in _ (by omega)
      have x9 : IntKind.i64.wrap ((j : Int) * 53) = (j : Int) * 53 := IntWalk.i64_in _ (by omega)
      obtain ⟨S, hS⟩ : ∃ S : Nat, S = v1 * 131 + v2 * 1117 + p * 29 + j * 53 := ⟨_, rfl⟩
      have x10 : IntKind.i64.wrap ((v1 : Int) * 131 + (v2 : Int) * 1117 + (p : Int) * 29 + (j : Int) * 53) = (S : Int) := by rw [IntWalk.i64_in _ (by omega)]; omega
      have hSb : S < 1099511627776 := by omega
      have t4 : Int.tdiv (S : Int) 64 = ((S / 64 : Nat) : Int) := by rw [Int.tdiv_eq_ediv_of_nonneg (by omega)]; simp
      obtain ⟨S2, hS2⟩ : ∃ S2, S2 = S / 64 := ⟨_, rfl⟩
      rw [← hS2] at t4
      have hS2b : S2 < 1099511627776 := by omega
      have x11 : IntKind.i64.wrap (S2 : Int) = (S2 : Int) := IntWalk.i64_in _ (by omega)
      have x12 := i64_xor S S2 hSb hS2b
      obtain ⟨X, hX⟩ : ∃ X, X = S ^^^ S2 := ⟨_, rfl⟩
      rw [← hX] at x12
      have t5 : Int.tmod (X : Int) (m : Int) = ((X % m : Nat) : Int) := by rw [Int.tmod_eq_emod_of_nonneg (by omega)]; simp
      have hvm : X % m < m := Nat.mod_lt _ (by omega)
      obtain ⟨r, hr⟩ : ∃ r, r = X % m := ⟨_, rfl⟩
      rw [← hr] at t5 hvm
      clear hS hS2 hX hr hSb hS2b
      go_enter Tryd.func38, Tryd.ntmps38
      go_wp2
      go_quiet (fail)
      go_wp2
      go_ret
      exact ⟨⟨r, hvm, rfl⟩, HR.out, ⟨HG.out.os, HG.out.tape, HG.out.output, HG.out.size, HG.out.block⟩, by simp [World.setCell]⟩

theorem grown_trans {w w1 w2 : World} {row : Option Nat} (h : w.grownBy w1 row) (k : w1.grownBy w2 row) : w.grownBy w2 row :=
  ⟨k.os.trans h.os, k.tape.trans h.tape, k.output.trans h.output, Nat.le_trans h.size k.size, fun i hi hr => (k.block i (Nat.lt_of_lt_of_le hi h.size) hr).trans (h.block i hi hr)⟩
theorem Byt.grown {w w' : World} {H R n : Nat} {A : Option Addr} (h : Byt w H A n) (hg : w.grownBy w' (some R)) (hH : H ≤ R) : Byt w' H A n := fun hn => by
  obtain ⟨b, o, e, hb, hc⟩ := h hn
  refine ⟨b, o, e, hb, fun k hk => ?_⟩
  obtain ⟨v, hv, hcv⟩ := hc k hk
  exact ⟨v, hv, hg.cell hcv (fun e => by have e1 : b = R := Option.some.inj e; omega)⟩

set_option maxRecDepth 10000 in
theorem openS_any (n c H : Nat) (A : Option Addr) (w : World) (hb : Byt w H A n) (hH : H ≤ w.heap.size) (hnc : n ≤ c) (hc : c ≤ 9223372036854775807) :
    Calls Tryd.prog 35 #[.slice A n c] w fun e w' => e = .returned (.pointer (some ⟨w.heap.size, 0, none⟩)) ∧ (∃ n', n' ≤ 2000 ∧ RdAt w' w.heap.size A n' c 0 ∧ Byt w' H A n') ∧ Below w.heap.size w w' := by
  have hbl : ∀ o : Obj, Below w.heap.size w (w.alloc o) := fun o => (Below.refl _ _).alloc (Nat.le_refl _) _
  by_cases h2 : 2000 < n
  · obtain ⟨b, o, e, hbH, hcs⟩ := hb (by omega)
    subst e
    have HB : Hid (Byt w H (some ⟨b, o, none⟩) 2000) := fun _ => ⟨b, o, rfl, hbH, fun k hk => hcs k (by omega)⟩
    obtain ⟨i0, hi, hz0, hz1, hz2⟩ := info_parts (show (Tryd.prog.info? 5).map (fun i => (i.zero, i.size, i.bytes)) = some (some (.int .u8 0), 1, 1) by kernel_rfl)
    have hsl : ∀ W, (Instr.slice 22 (.slice (some ⟨b, o, none⟩) n c) none (some (.int .i64 2000)) none).run Tryd.prog W = .ok (.slice (some ⟨b, o, none⟩) 2000 c) W := fun W => by
      have he : Tryd.prog.elem 22 = 5 := by kernel_rfl
      have h := run_slice_h (P := Tryd.prog) W 22 (some ⟨b, o, none⟩) n c (by rw [he]; exact Tryd.underlying22) .i64 2000 (by omega) (by omega)
      rw [h, he, run_sizeOf W hi, Result.andThen_ok]
      simp [sliced, Addr.add]
    clear hb hcs
    go_enter Tryd.func35, Tryd.ntmps35
    go_wp2
    go_ret
    exact ⟨rfl, ⟨2000, Nat.le_refl _, heap_alloc_new w _, HB.out.below ((hbl _).mono hH)⟩, hbl _⟩
  · have HB := Lib.hid hb
    clear hb
    go_enter Tryd.func35, Tryd.ntmps35
    go_wp2
    go_ret
    exact ⟨rfl, ⟨n, by omega, heap_alloc_new w _, HB.out.below ((hbl _).mono hH)⟩, hbl _⟩

set_option maxRecDepth 10000 in
theorem size91_any (R n c H p m : Nat) (A : Option Addr) (w : World) (hR : RdAt w R A n c p) (hb : Byt w H A n) (hH : H ≤ R) (hp : p ≤ 100000) (hn : n ≤ 2000) (hm1 : 3 ≤ m) (hm : m ≤ 100) :
    Calls Tryd.prog 36 #[.pointer (some ⟨R, 0, none⟩), .int .i64 (m : Int)] w fun e w' => (∃ v : Nat, 3 ≤ v ∧ v ≤ m ∧ e = .returned (.int .i64 (v : Int))) ∧ RdAt w' R A n c (p + 1) ∧ w.grownBy w' (some R) ∧ w'.heap.size = w.heap.size := by
  have HP := Lib.hid (pick_any R n c H p (m - 2) A w hR hb hH hp hn (by omega) (by omega))
  have e2 : (((m - 2 : Nat) : Nat) : Int) = (m : Int) - 2 := by omega
  rw [e2] at HP
  clear hR hb e2
  go_enter Tryd.func36, Tryd.ntmps36
  go_wp2_with fail
  refine HP.out.mono ?_
  rintro e w1 ⟨⟨v, hv, rfl⟩, h1, h2, h3⟩
  have H1 := Lib.hid h1
  have H2 := Lib.hid h2
  have H3 := Lib.hid h3
  clear h1 h2 h3
  have hw : IntKind.i64.wrap (3 + (v : Int)) = ((3 + v : Nat) : Int) := by rw [IntWalk.i64_in _ (by omega)]; omega
  go_wp2
  go_ret
  exact ⟨⟨3 + v, by omega, by omega, rfl⟩, H1.out, H2.out, H3.out⟩
end Go.Proofs.YtgojojoanhilnabDoor
