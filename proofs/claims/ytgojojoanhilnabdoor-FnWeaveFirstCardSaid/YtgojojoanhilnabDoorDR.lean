/- Several texts as one: Draw0 Draw2 DrawO DrawR Rw Draw6 SameI. -/
import Derived.Test.YtgojojoanhilnabDoorMA
import Derived.Laws.BitsAllLaws
import Derived.Test.YtgojojoanhilnabDoorByS
import Derived.BigQuiet
import Derived.Deep.QuietTactic
namespace Go.Proofs.YtgojojoanhilnabDoor
open Go.ChangeShapes Go.WideShapes Go.ChangeAt Go.RowKit

theorem i64_xor (a b : Nat) (ha : a < 1099511627776) (hb : b < 1099511627776) : bits .xor .i64 (a : Int) (b : Int) = ((a ^^^ b : Nat) : Int) := by
  have hx : a ^^^ b < 2 ^ 40 := Nat.xor_lt_two_pow (by omega) (by omega)
  have h1 : (BitVec.ofInt 64 (a : Int)).toNat = a := by
    rw [BitVec.ofInt_natCast, BitVec.toNat_ofNat]; exact Nat.mod_eq_of_lt (by omega)
  have h2 : (BitVec.ofInt 64 (b : Int)).toNat = b := by
    rw [BitVec.ofInt_natCast, BitVec.toNat_ofNat]; exact Nat.mod_eq_of_lt (by omega)
  show IntKind.i64.wrap ((BitVec.ofInt 64 (a : Int) ^^^ BitVec.ofInt 64 (b : Int)).toNat : Int) = _
  rw [BitVec.toNat_xor, h1, h2]
  exact IntWalk.i64_in _ (by omega)

/-- The bytes of a text that came in can be read. -/
def Byt (w : World) (H : Nat) (A : Option Addr) (n : Nat) : Prop := 0 < n → ∃ b o, A = some ⟨b, o, none⟩ ∧ b < H ∧ ∀ k, k < n → ∃ v : Nat, v < 256 ∧ w.cell? ⟨b, o + k, none⟩ = some (.int .u8 (v : Int))
/-- Block R is the drawer: its text, and how many numbers it has picked. -/
def RdAt (w : World) (R : Nat) (A : Option Addr) (n c p : Nat) : Prop := w.heap[R]? = some (.cells #[.slice A n c, .int .i64 (p : Int)] 83 (0, 0))
section
variable {w w' : World} {H R n c p : Nat} {A : Option Addr}
theorem Byt.keep (h : Byt w H A n) (hk : ∀ b o, b < H → w'.cell? ⟨b, o, none⟩ = w.cell? ⟨b, o, none⟩) : Byt w' H A n := fun hn => by
  obtain ⟨b, o, e, hb, hc⟩ := h hn
  refine ⟨b, o, e, hb, fun k hkn => ?_⟩
  obtain ⟨v, hv, hcv⟩ := hc k hkn
  exact ⟨v, hv, (hk b _ hb).trans hcv⟩
theorem Byt.below (h : Byt w H A n) (hb : Below H w w') : Byt w' H A n := h.keep fun _ _ hp => hb.cell hp
theorem RdAt.lt (h : RdAt w R A n c p) : R < w.heap.size := (Array.getElem?_eq_some_iff.1 h).1
theorem RdAt.same (h : RdAt w R A n c p) (hk : w'.heap[R]? = w.heap[R]?) : RdAt w' R A n c p := hk.trans h
theorem RdAt.c0 (h : RdAt w R A n c p) : w.cell? ⟨R, 0, none⟩ = some (.slice A n c) := by
  rw [cell_of_row w R 0 _ _ (0, 0) h]; rfl
theorem RdAt.c1 (h : RdAt w R A n c p) : w.cell? ⟨R, 1, none⟩ = some (.int .i64 (p : Int)) := by
  rw [cell_of_row w R 1 _ _ (0, 0) h]; rfl
theorem RdAt.frozen (h : RdAt w R A n c p) (i : Nat) : w.frozen? ⟨R, i, none⟩ = false := frozen_of_row w R i _ _ h
theorem RdAt.next (h : RdAt w R A n c p) : RdAt (w.setCell ⟨R, 1, none⟩ (.int .i64 ((p : Int) + 1))) R A n c (p + 1) := by
  have h' : w.heap[R]? = some (.cells #[.slice A n c, .int .i64 (p : Int)] 83 (0, 0)) := h
  simp [RdAt, World.setCell, Array.getElem?_modify, h']
end

set_option maxRecDepth 10000 in
set_option maxHeartbeats 2000000 in
theorem pick_any (R n c H p m : Nat) (A : Option Addr) (w : World) (hR : RdAt w R A n c p) (hb : Byt w H A n) (hH : H ≤ R) (hp : p ≤ 100000) (hn : n ≤ 2000) (hm1 : 1 ≤ m) (hm : m ≤ 1000) :
    Calls Tryd.prog 38 #[.pointer (some ⟨R, 0, none⟩), .int .i64 (m : Int)] w fun e w' => (∃ v : Nat, v < m ∧ e = .returned (.int .i64 (v : Int))) ∧ RdAt w' R A n c (p + 1) ∧ w.grownBy w' (some R) ∧ w'.heap.size = w.heap.size := by
  have c0 := hR.c0
  have c1 := hR.c1
  have f1 := hR.frozen 1
  have hw : IntKind.i64.wrap ((p : Int) + 1) = (p : Int) + 1 := IntWalk.i64_in _ (by omega)
  have HR := Lib.hid hR.next
  have HB := Lib.hid (hb.keep (w' := w.setCell ⟨R, 1, none⟩ (.int .i64 ((p : Int) + 1))) (fun b o hbH => (Below.setCell (Below.refl H w) (p := ⟨R, 1, none⟩) hH _).cell (p := ⟨b, o, none⟩) hbH))
  have HG : Hid (w.grownBy (w.setCell ⟨R, 1, none⟩ (.int .i64 ((p : Int) + 1))) (some R)) := ⟨rfl, rfl, rfl, by simp [World.setCell], fun k _ hk => Below.heap_setCell w _ _ k (by intro e; exact hk (by rw [e]))⟩
  have hlt := hR.lt
  clear hR hb
  have hw0 : IntKind.i64.wrap ((p : Int) + 1 - 1) = (p : Int) := by rw [show (p : Int) + 1 - 1 = (p : Int) by omega]; exact IntWalk.i64_in _ (by omega)
  have hwp : IntKind.i64.wrap (p : Int) = (p : Int) := IntWalk.i64_in _ (by omega)
  have d0 := HR.out.c0
  have d1 : (w.setCell ⟨R, 1, none⟩ (.int .i64 ((p : Int) + 1))).cell? ⟨R, 1, none⟩ = some (.int .i64 ((p : Int) + 1)) := by rw [HR.out.c1]; simp
  by_cases hn0 : n = 0
  · subst hn0
    clear HB
    go_enter Tryd.func38, Tryd.ntmps38
    go_wp2
    go_ret
    exact ⟨⟨0, by omega, rfl⟩, HR.out, HG.out, by simp [World.setCell]⟩
  · obtain ⟨b, o, e, hbH, hcs⟩ := HB.out (by omega)
    subst e
    have he0 : ((n : Int) == 0) = false := by simp; omega
    by_cases hpn : p < n
    · obtain ⟨v, hv, hcv⟩ := hcs p hpn
      have htm : Int.tmod (v : Int) (m : Int) = ((v % m : Nat) : Int) := by rw [Int.tmod_eq_emod_of_nonneg (by omega)]; simp
      have hvm : v % m < m := Nat.mod_lt _ (by omega)
      obtain ⟨r, hr⟩ : ∃ r, r = v % m := ⟨_, rfl⟩
      rw [← hr] at htm hvm
      clear hcs HB hr hn0
      go_enter Tryd.func38, Tryd.ntmps38
      go_wp2
      go_ret
      exact ⟨⟨r, hvm, rfl⟩, HR.out, HG.out, by simp [World.setCell]⟩
    · have hi1 : p % n < n := Nat.mod_lt _ (by omega)
      have hi2 : (p * 7 + 3) % n < n := Nat.mod_lt _ (by omega)
      obtain ⟨v1, hv1, hcv1⟩ := hcs _ hi1
      obtain ⟨v2, hv2, hcv2⟩ := hcs _ hi2
      have hj : p / n ≤ p := Nat.div_le_self _ _
      have t1 : Int.tmod (p : Int) (n : Int) = ((p % n : Nat) : Int) := by rw [Int.tmod_eq_emod_of_nonneg (by omega)]; simp
      have t2 : Int.tmod ((p : Int) * 7 + 3) (n : Int) = (((p * 7 + 3) % n : Nat) : Int) := by rw [Int.tmod_eq_emod_of_nonneg (by omega)]; simp
      have t3 : Int.tdiv (p : Int) (n : Int) = ((p / n : Nat) : Int) := by rw [Int.tdiv_eq_ediv_of_nonneg (by omega)]; simp
      obtain ⟨i1, hi1'⟩ : ∃ i, i = p % n := ⟨_, rfl⟩
      obtain ⟨i2, hi2'⟩ : ∃ i, i = (p * 7 + 3) % n := ⟨_, rfl⟩
      obtain ⟨j, hj'⟩ : ∃ j, j = p / n := ⟨_, rfl⟩
      rw [← hi1'] at t1 hi1 hcv1
      rw [← hi2'] at t2 hi2 hcv2
      rw [← hj'] at t3 hj
      clear hi1' hi2' hj' hcs HB hn0
      have x1 : IntKind.i64.wrap ((v1 : Int) * 131) = (v1 : Int) * 131 := IntWalk.i64_in _ (by omega)
      have x2 : IntKind.i64.wrap ((p : Int) * 7) = (p : Int) * 7 := IntWalk.i64_in _ (by omega)
      have x3 : IntKind.i64.wrap ((p : Int) * 7 + 3) = (p : Int) * 7 + 3 := IntWalk.i64_in _ (by omega)
      have x4 : IntKind.i64.wrap ((v2 : Int) * 1117) = (v2 : Int) * 1117 := IntWalk.i64_in _ (by omega)
      have x5 : IntKind.i64.wrap ((v1 : Int) * 131 + (v2 : Int) * 1117) = (v1 : Int) * 131 + (v2 : Int) * 1117 := IntWalk.i64_in _ (by omega)
      have x6 : IntKind.i64.wrap ((p : Int) * 29) = (p : Int) * 29 := IntWalk.i64_in _ (by omega)
      have x7 : IntKind.i64.wrap ((v1 : Int) * 131 + (v2 : Int) * 1117 + (p : Int) * 29) = (v1 : Int) * 131 + (v2 : Int) * 1117 + (p : Int) * 29 := IntWalk.i64_in _ (by omega)
      have x8 : IntKind.i64.wrap (j : Int) = (j : Int) := IntWalk.i64_in _ (by omega)
      have x9 : IntKind.i64.wrap ((j : Int) * 53) = (j : Int) * 53 := IntWalk.i64_in _ (by omega)
      obtain ⟨S, hS⟩ : ∃ S : Nat, S = v1 * 131 + v2 * 1117 + p * 29 + j * 53 := ⟨_, rfl⟩
      have x10 : IntKind.i64.wrap ((v1 : Int) * 131 + (v2 : Int) * 1117 + (p : Int) * 29 + (j : Int) * 53) = (S : Int) := by rw [IntWalk.i64_in _ (by omega)]; omega
      have hSb : S < 1099511627776 := by omega
      have t4 : Int.tdiv (S : Int) 64 = ((S / 64 : Nat) : Int) := by rw [Int.tdiv_eq_ediv_of_nonneg (by omega)]; simp
      obtain ⟨S2, hS2⟩ : ∃ S2, S2 = S / 64 := ⟨_, rfl⟩
      rw [← hS2] at t4
      have hS2b : S2 < 1099511627776 := by omega
      have x11 : IntKind.i64.wrap (S2 : Int) = (S2 : Int) := IntWalk.i64_in _ (by omega)
      have x12 := i64_xor S S2 hSb hS2b
      obtain ⟨X, hX⟩ : ∃ X, X = S ^^^ S2 := ⟨_, rfl⟩
      rw [← hX] at x12
      have t5 : Int.tmod (X : Int) (m : Int) = ((X % m : Nat) : Int) := by rw [Int.tmod_eq_emod_of_nonneg (by omega)]; simp
      have hvm : X % m < m := Nat.mod_lt _ (by omega)
      obtain ⟨r, hr⟩ : ∃ r, r = X % m := ⟨_, rfl⟩
      rw [← hr] at t5 hvm
      clear hS hS2 hX hr hSb hS2b
      go_enter Tryd.func38, Tryd.ntmps38
      go_wp2
      go_quiet (fail)
      go_wp2
      go_ret
      exact ⟨⟨r, hvm, rfl⟩, HR.out, ⟨HG.out.os, HG.out.tape, HG.out.output, HG.out.size, HG.out.block⟩, by simp [World.setCell]⟩

theorem grown_trans {w w1 w2 : World} {row : Option Nat} (h : w.grownBy w1 row) (k : w1.grownBy w2 row) : w.grownBy w2 row :=
  ⟨k.os.trans h.os, k.tape.trans h.tape, k.output.trans h.output, Nat.le_trans h.size k.size, fun i hi hr => (k.block i (Nat.lt_of_lt_of_le hi h.size) hr).trans (h.block i hi hr)⟩
theorem Byt.grown {w w' : World} {H R n : Nat} {A : Option Addr} (h : Byt w H A n) (hg : w.grownBy w' (some R)) (hH : H ≤ R) : Byt w' H A n := fun hn => by
  obtain ⟨b, o, e, hb, hc⟩ := h hn
  refine ⟨b, o, e, hb, fun k hk => ?_⟩
  obtain ⟨v, hv, hcv⟩ := hc k hk
  exact ⟨v, hv, hg.cell hcv (fun e => by have e1 : b = R := Option.some.inj e; omega)⟩

set_option maxRecDepth 10000 in
theorem openS_any (n c H : Nat) (A : Option Addr) (w : World) (hb : Byt w H A n) (hH : H ≤ w.heap.size) (hnc : n ≤ c) (hc : c ≤ 9223372036854775807) :
    Calls Tryd.prog 35 #[.slice A n c] w fun e w' => e = .returned (.pointer (some ⟨w.heap.size, 0, none⟩)) ∧ (∃ n', n' ≤ 2000 ∧ RdAt w' w.heap.size A n' c 0 ∧ Byt w' H A n') ∧ Below w.heap.size w w' := by
  have hbl : ∀ o : Obj, Below w.heap.size w (w.alloc o) := fun o => (Below.refl _ _).alloc (Nat.le_refl _) _
  by_cases h2 : 2000 < n
  · obtain ⟨b, o, e, hbH, hcs⟩ := hb (by omega)
    subst e
    have HB : Hid (Byt w H (some ⟨b, o, none⟩) 2000) := fun _ => ⟨b, o, rfl, hbH, fun k hk => hcs k (by omega)⟩
    obtain ⟨i0, hi, hz0, hz1, hz2⟩ := info_parts (show (Tryd.prog.info? 5).map (fun i => (i.zero, i.size, i.bytes)) = some (some (.int .u8 0), 1, 1) by kernel_rfl)
    have hsl : ∀ W, (Instr.slice 22 (.slice (some ⟨b, o, none⟩) n c) none (some (.int .i64 2000)) none).run Tryd.prog W = .ok (.slice (some ⟨b, o, none⟩) 2000 c) W := fun W => by
      have he : Tryd.prog.elem 22 = 5 := by kernel_rfl
      have h := run_slice_h (P := Tryd.prog) W 22 (some ⟨b, o, none⟩) n c (by rw [he]; exact Tryd.underlying22) .i64 2000 (by omega) (by omega)
      rw [h, he, run_sizeOf W hi, Result.andThen_ok]
      simp [sliced, Addr.add]
    clear hb hcs
    go_enter Tryd.func35, Tryd.ntmps35
    go_wp2
    go_ret
    exact ⟨rfl, ⟨2000, Nat.le_refl _, heap_alloc_new w _, HB.out.below ((hbl _).mono hH)⟩, hbl _⟩
  · have HB := Lib.hid hb
    clear hb
    go_enter Tryd.func35, Tryd.ntmps35
    go_wp2
    go_ret
    exact ⟨rfl, ⟨n, by omega, heap_alloc_new w _, HB.out.below ((hbl _).mono hH)⟩, hbl _⟩

set_option maxRecDepth 10000 in
theorem size91_any (R n c H p m : Nat) (A : Option Addr) (w : World) (hR : RdAt w R A n c p) (hb : Byt w H A n) (hH : H ≤ R) (hp : p ≤ 100000) (hn : n ≤ 2000) (hm1 : 3 ≤ m) (hm : m ≤ 100) :
    Calls Tryd.prog 36 #[.pointer (some ⟨R, 0, none⟩), .int .i64 (m : Int)] w fun e w' => (∃ v : Nat, 3 ≤ v ∧ v ≤ m ∧ e = .returned (.int .i64 (v : Int))) ∧ RdAt w' R A n c (p + 1) ∧ w.grownBy w' (some R) ∧ w'.heap.size = w.heap.size := by
  have HP := Lib.hid (pick_any R n c H p (m - 2) A w hR hb hH hp hn (by omega) (by omega))
  have e2 : (((m - 2 : Nat) : Nat) : Int) = (m : Int) - 2 := by omega
  rw [e2] at HP
  clear hR hb e2
  go_enter Tryd.func36, Tryd.ntmps36
  go_wp2_with fail
  refine HP.out.mono ?_
  rintro e w1 ⟨⟨v, hv, rfl⟩, h1, h2, h3⟩
  have H1 := Lib.hid h1
  have H2 := Lib.hid h2
  have H3 := Lib.hid h3
  clear h1 h2 h3
  have hw : IntKind.i64.wrap (3 + (v : Int)) = ((3 + v : Nat) : Int) := by rw [IntWalk.i64_in _ (by omega)]; omega
  go_wp2
  go_ret
  exact ⟨⟨3 + v, by omega, by omega, rfl⟩, H1.out, H2.out, H3.out⟩
end Go.Proofs.YtgojojoanhilnabDoor

namespace Go.Proofs.YtgojojoanhilnabDoor
open Go.ChangeShapes Go.WideShapes Go.ChangeAt Go.RowKit

theorem own_up (w1 : World) {v3 : Value} {o : Obj} (h : v3.ownBlock = (Value.slice (some ⟨w1.heap.size, 0, none⟩) 0 0).ownBlock ∨ v3.ownBlock = some (w1.alloc o).drew.heap.size) : ∀ z, v3.ownBlock = some z → w1.heap.size ≤ z := fun z hz => by
  rcases h with e | e
  · rw [e] at hz
    have : w1.heap.size = z := Option.some.inj hz
    omega
  · rw [e] at hz
    have : (w1.alloc o).drew.heap.size = z := Option.some.inj hz
    have e2 : (w1.alloc o).drew.heap.size = w1.heap.size + 1 := by show (w1.alloc o).heap.size = _; simp
    omega
theorem own_up2 {D s : Nat} {v3 v4 : Value} (h3 : ∀ z, v3.ownBlock = some z → D ≤ z) (h : v4.ownBlock = v3.ownBlock ∨ v4.ownBlock = some s) (hs : D ≤ s) : ∀ z, v4.ownBlock = some z → D ≤ z := fun z hz => by
  rcases h with e | e
  · rw [e] at hz; exact h3 z hz
  · rw [e] at hz
    have : s = z := Option.some.inj hz
    omega

theorem own_up3 (w1 : World) {v3 : Value} {o o' : Obj} (h : v3.ownBlock = (Value.slice (some ⟨w1.heap.size, 0, none⟩) 0 0).ownBlock ∨ v3.ownBlock = some ((w1.alloc o).alloc o').drew.heap.size) : ∀ z, v3.ownBlock = some z → w1.heap.size ≤ z := fun z hz => by
  rcases h with e | e
  · rw [e] at hz
    have : w1.heap.size = z := Option.some.inj hz
    omega
  · rw [e] at hz
    have : ((w1.alloc o).alloc o').drew.heap.size = z := Option.some.inj hz
    have e2 : ((w1.alloc o).alloc o').drew.heap.size = w1.heap.size + 1 + 1 := by show ((w1.alloc o).alloc o').heap.size = _; simp
    omega
theorem two_cell (w1 : World) (k : Nat) {w3 : World} {o : Obj} (h : ((w1.alloc o).alloc (.cells #[.int .i64 (k : Int)] 3)).drew.grownBy w3 (Value.slice (some ⟨w1.heap.size, 0, none⟩) 0 0).ownBlock) : ∀ j u, (ints [(k : Int)])[j]? = some u → w3.cell? ((⟨w1.heap.size + 1, 0, none⟩ : Addr).add j) = some u := by
  intro j u hu
  have h1 := heap_alloc_new (w1.alloc o) (.cells #[.int .i64 (k : Int)] 3)
  rw [show (w1.alloc o).heap.size = w1.heap.size + 1 by simp] at h1
  have h2 : w3.heap[w1.heap.size + 1]? = some (.cells #[.int .i64 (k : Int)] 3 (0, 0)) := (h.block (w1.heap.size + 1) (by show _ < ((w1.alloc o).alloc _).heap.size; simp) (by simp [Value.ownBlock])).trans h1
  rw [Addr.add_lit, cell_of_row w3 _ _ _ _ (0, 0) h2]
  simpa [ints] using hu

theorem own_up4 (w1 : World) {v3 : Value} {o o' : Obj} (h : v3.ownBlock = (Value.slice (some ⟨w1.heap.size + 1, 0, none⟩) 0 0).ownBlock ∨ v3.ownBlock = some ((w1.alloc o).alloc o').drew.heap.size) : ∀ z, v3.ownBlock = some z → w1.heap.size ≤ z := fun z hz => by
  rcases h with e | e
  · rw [e] at hz
    have : w1.heap.size + 1 = z := Option.some.inj hz
    omega
  · rw [e] at hz
    have : ((w1.alloc o).alloc o').drew.heap.size = z := Option.some.inj hz
    have e2 : ((w1.alloc o).alloc o').drew.heap.size = w1.heap.size + 1 + 1 := by show ((w1.alloc o).alloc o').heap.size = _; simp
    omega
theorem two_cell2 (w1 : World) (k : Nat) {w3 : World} {o : Obj} (h : ((w1.alloc (.cells #[.int .i64 (k : Int)] 3)).alloc o).drew.grownBy w3 (Value.slice (some ⟨w1.heap.size + 1, 0, none⟩) 0 0).ownBlock) : ∀ j u, (ints [(k : Int)])[j]? = some u → w3.cell? ((⟨w1.heap.size, 0, none⟩ : Addr).add j) = some u := by
  intro j u hu
  have h1 := heap_alloc_new w1 (.cells #[.int .i64 (k : Int)] 3)
  have h3 := Below.heap_alloc (w1.alloc (.cells #[.int .i64 (k : Int)] 3)) o w1.heap.size (by simp)
  have h2 : w3.heap[w1.heap.size]? = some (.cells #[.int .i64 (k : Int)] 3 (0, 0)) := (h.block w1.heap.size (by show _ < ((w1.alloc _).alloc o).heap.size; simp; omega) (by simp [Value.ownBlock])).trans (h3.trans h1)
  rw [Addr.add_lit, cell_of_row w3 _ _ _ _ (0, 0) h2]
  simpa [ints] using hu

set_option maxRecDepth 10000 in
set_option maxHeartbeats 2000000 in
theorem of91_any (R n c H p m : Nat) (A : Option Addr) (w : World) (hR : RdAt w R A n c p) (hb : Byt w H A n) (hH : H ≤ R) (hp : p ≤ 90000) (hn : n ≤ 2000) (hm1 : 1 ≤ m) (hm : m ≤ 7) :
    Calls Tryd.prog 37 #[.pointer (some ⟨R, 0, none⟩), .int .i64 (m : Int)] w fun e w' => ∃ v l q, e = .returned v ∧ Own w' w.heap.size v l ∧ (l.length = m ∧ RdAt w' R A n c q ∧ q ≤ p + 10) ∧ w.grownBy w' (some R) := by
  have HP := Lib.hid (fun V q k (h1 : RdAt V R A n c q) (h2 : Byt V H A n) (h3 : q ≤ 100000) (h4 : 1 ≤ k) (h5 : k ≤ 1000) => pick_any R n c H q k A V h1 h2 hH h3 hn h4 h5)
  have hRw := hR.lt
  have HO0 : Hid ((w.alloc (.cells #[.int .i64 0] 3)).ownsRow w.heap.size 3 1 (.slice (some ⟨w.heap.size, 0, none⟩) 1 1) 1 (ints [0])) := Lib.hid (World.ownsRow_lit w #[.int .i64 0] 1 (Nat.le_refl _) (by unfold maxLen; omega) rfl)
  have HG0 : Hid (w.grownBy (w.alloc (.cells #[.int .i64 0] 3)) (some R)) := World.grownBy_alloc w _ _
  have HR0 : Hid (RdAt (w.alloc (.cells #[.int .i64 0] 3)) R A n c p) := hR.same (Below.heap_alloc w _ R hRw)
  have HB0 := Lib.hid (hb.grown HG0.out hH)
  clear hR hb
  go_enter Tryd.func37, Tryd.ntmps37
  go_wp2
  generalize w.alloc (.cells #[.int .i64 0] 3) = W0 at *
  generalize hB : w.heap.size = B at *
  have HB := Lib.hid hB
  clear hB
  go_loopw [5, 6] (fun v i wr => ∃ (k : Nat) (l : List Int) (q : Nat), 1 ≤ k ∧ k ≤ m ∧ i = .int .i64 k ∧ Hid (l.length = k) ∧ Hid (wr.ownsRow B 3 1 v k (ints l)) ∧ Hid (RdAt wr R A n c q) ∧ q ≤ p + k ∧ Hid (Byt wr H A n) ∧ Hid (w.grownBy wr (some R))) (fun _ i _ => m - (intOf i).toNat)
  case atStart => exact ⟨1, [0], p, Nat.le_refl _, hm1, rfl, Lib.hid rfl, HO0, HR0, by omega, HB0, HG0⟩
  case round =>
    obtain ⟨k, l, q, hk1, hk, rfl, hl, hown, hrd, hq, hby, hgr⟩ := hrel
    clear HO0 HR0 HB0 HG0
    by_cases hlt : k < m
    · obtain ⟨g, cl, cur, e, hgB, hgc, hkc, hcm⟩ : ∃ g cl cur, u5 = .slice (some ⟨g, 0, none⟩) k cl ∧ B ≤ g ∧ wr.heap[g]? = some (.cells cur 3 (0, 0)) ∧ k ≤ cl ∧ cl ≤ maxLen := by
        rcases hown.out.2 with ⟨_, h0⟩ | ⟨g, cap, cur, e, h1, h2, h3, h4, _⟩
        · omega
        · exact ⟨g, cap, cur, e, h1, h2, h3, h4⟩
      subst e
      have hgs := (Array.getElem?_eq_some_iff.1 hgc).1
      clear hgc
      go_wp2_with fail
      refine (HP.out wr q k hrd.out hby.out (by omega) hk1 (by omega)).mono ?_
      rintro e w1 ⟨⟨v1, hv1, rfl⟩, h1, h2, h3⟩
      have HR1 := Lib.hid h1
      have HB1 := Lib.hid (hby.out.grown h2 hH)
      have HG1 := Lib.hid (grown_trans hgr.out h2)
      have HS1 := Lib.hid h3
      have hBR : B ≤ w1.heap.size := by rw [h3]; omega
      have hg1 : g < w1.heap.size := by rw [h3]; omega
      have hcells : Hid (∀ j u, (ints l)[j]? = some u → w1.cell? ⟨g, j, none⟩ = some u) := by
        intro j u hu
        rcases hown.out.2 with ⟨e, _⟩ | ⟨g', cap, cur, e, _, hgg, _, _, _, ht⟩
        · cases e
        · injection e with e1 _ _
          injection e1 with e1
          injection e1 with e1
          subst e1
          have hb1 : w1.heap[g]? = wr.heap[g]? := h2.block g hgs (fun e => by have e1 : g = R := Option.some.inj e; omega)
          rw [cell_of_row w1 g j _ _ (0, 0) (hb1.trans hgg)]
          rw [← ht, List.getElem?_take] at hu
          split at hu
          · rw [← Array.getElem?_toList]; exact hu
          · cases hu
      clear h1 h2 h3 hrd hby hgr hown
      obtain ⟨pl, hpl⟩ : ∃ pl, pl = v1 + 1 := ⟨_, rfl⟩
      have hw1 : IntKind.i64.wrap (1 + (v1 : Int)) = (pl : Int) := by rw [IntWalk.i64_in _ (by omega)]; omega
      have hplk : pl ≤ k := by omega
      have hpl1 : 1 ≤ pl := by omega
      clear hpl hv1
      have hsA := fun W => slice_head W g k cl pl (by omega)
      obtain ⟨ad, hade⟩ : ∃ ad : Addr, ad = if cl = pl then ⟨g, 0, none⟩ else ⟨g, pl, none⟩ := ⟨_, rfl⟩
      have hsB : ∀ W : World, (Instr.slice 26 (.slice (some ⟨g, 0, none⟩) k cl) (some (.int .i64 (pl : Int))) none none).run Tryd.prog W = .ok (.slice (some ad) (k - pl) (cl - pl)) W := fun W => by
        rw [hade]; exact slice_tail W g k cl pl (by omega) (by omega)
      have had : pl < k → ad = ⟨g, pl, none⟩ := fun h => by rw [hade, if_neg (by omega)]
      clear hade
      have HTK : Hid (∀ W : World, (∀ z, z < w1.heap.size → W.heap[z]? = w1.heap[z]?) → ∀ j u, (ints (l.take pl))[j]? = some u → W.cell? ((⟨g, 0, none⟩ : Addr).add j) = some u) := fun W hW j u hu => by
        rw [Addr.add_lit, Nat.zero_add, World.cell?_of_block (w := w1) (hW g hg1)]
        refine hcells.out j u ?_
        simp only [ints, List.map_take, List.getElem?_take] at hu
        split at hu
        · exact hu
        · cases hu
      have HDP : Hid (∀ W : World, (∀ z, z < w1.heap.size → W.heap[z]? = w1.heap[z]?) → ∀ j u, (ints (l.drop pl))[j]? = some u → W.cell? (ad.add j) = some u) := fun W hW j u hu => by
        have hj : j < (l.drop pl).length := by
          have := (List.getElem?_eq_some_iff.1 hu).1
          simpa using this
        rw [List.length_drop, hl.out] at hj
        rw [had (by omega), Addr.add_lit, World.cell?_of_block (w := w1) (hW g hg1)]
        refine hcells.out (pl + j) u ?_
        simp only [ints, List.map_drop, List.getElem?_drop] at hu
        exact hu
      have HLT : Hid ((l.take pl).length = pl) := by rw [Hid, List.length_take, hl.out]; omega
      have HLD : Hid ((l.drop pl).length = k - pl) := by rw [Hid, List.length_drop, hl.out]
      have HE0 : Hid ((w1.alloc (.cells #[] 3)).drew.ownsRow B 3 1 (.slice (some ⟨w1.heap.size, 0, none⟩) 0 0) 0 []) := Lib.hid (show _ from own_empty w1 _ hBR)
      have HE1 : Hid ((w1.alloc (.cells #[] 3)).ownsRow B 3 1 (.slice (some ⟨w1.heap.size, 0, none⟩) 0 0) 0 []) := Lib.hid (own_empty w1 _ hBR)
      have HE2 : Hid (((w1.alloc (.cells #[.int .i64 (k : Int)] 3)).alloc (.cells #[] 3)).ownsRow B 3 1 (.slice (some ⟨w1.heap.size + 1, 0, none⟩) 0 0) 0 []) := by
        have h := own_empty (w1.alloc (.cells #[.int .i64 (k : Int)] 3)) B (by simp; omega)
        rw [show (w1.alloc (.cells #[.int .i64 (k : Int)] 3)).heap.size = w1.heap.size + 1 by simp] at h
        exact h
      clear hcells had
      go_wp2
      go_region_law (first
        | (refine step_append_at _ rfl (.tmp 19) (.tmp 22) rfl B _ 0 [] (by simp [Act.eval]) HE0.out ⟨g, 0, none⟩ pl cl (l.take pl) (by simp [Act.eval]) HLT.out (HTK.out _ (fun z hz => Below.heap_alloc _ _ _ hz)) (by omega) (by simp; omega) ?_; intro v3 w3 hv3 hgv3 hatv3; have HV3 := Lib.hid hv3; have hs3 := hgv3.size; have HW3 := Lib.hid (fun z (hz : z < w1.heap.size) => (hgv3.block z (by simp; omega) (by simp [Value.ownBlock]; omega)).trans (Below.heap_alloc w1 _ z hz)); have HK3 := Lib.hid (own_up w1 hatv3); have HG3 := Lib.hid hgv3; clear hv3 hgv3 hatv3)
        | (refine step_append_at _ rfl (.tmp 19) (.tmp 22) rfl B _ 0 [] (by simp [Act.eval]) (HE1.out.alloc _).drew ⟨g, 0, none⟩ pl cl (l.take pl) (by simp [Act.eval]) HLT.out (HTK.out _ (fun z hz => (Below.heap_alloc _ _ _ (by simp; omega)).trans (Below.heap_alloc _ _ _ hz))) (by omega) (by simp; omega) ?_; intro v3 w3 hv3 hgv3 hatv3; have HV3 := Lib.hid hv3; have hs3 := hgv3.size; have HW3 := Lib.hid (fun z (hz : z < w1.heap.size) => (hgv3.block z (by simp; omega) (by simp [Value.ownBlock]; omega)).trans ((Below.heap_alloc _ _ z (by simp; omega)).trans (Below.heap_alloc w1 _ z hz))); have HK3 := Lib.hid (own_up3 w1 hatv3); have HC3 := Lib.hid (two_cell w1 k hgv3); have HG3 := Lib.hid hgv3; clear hv3 hgv3 hatv3)
        | (refine step_append_at _ rfl (.tmp 19) (.tmp 22) rfl B _ 0 [] (by simp [Act.eval]) HE2.out.drew ⟨g, 0, none⟩ pl cl (l.take pl) (by simp [Act.eval]) HLT.out (HTK.out _ (fun z hz => (Below.heap_alloc _ _ _ (by simp; omega)).trans (Below.heap_alloc _ _ _ hz))) (by omega) (by simp; omega) ?_; intro v3 w3 hv3 hgv3 hatv3; have HV3 := Lib.hid hv3; have hs3 := hgv3.size; have HW3 := Lib.hid (fun z (hz : z < w1.heap.size) => (hgv3.block z (by simp; omega) (by simp [Value.ownBlock]; omega)).trans ((Below.heap_alloc _ _ z (by simp; omega)).trans (Below.heap_alloc w1 _ z hz))); have HK3 := Lib.hid (own_up4 w1 hatv3); have HC3 := Lib.hid (two_cell2 w1 k hgv3); have HG3 := Lib.hid hgv3; clear hv3 hgv3 hatv3)
        | (refine step_append_at _ rfl (.tmp 23) (.tmp 25) rfl B v3 (0 + pl) ([] ++ ints (l.take pl)) (by simp [Act.eval]) (HV3.out.alloc _) ⟨w3.heap.size, 0, none⟩ 1 1 [(k : Int)] (by simp [Act.eval]) rfl (one_cell w3 _ _) (by omega) (by simp at hs3 ⊢; omega) ?_; intro v4 w4 hv4 hgv4 hatv4; have HV4 := Lib.hid hv4; have hs4 := hgv4.size; have HW4 := Lib.hid (fun z (hz : z < w1.heap.size) => (hgv4.block z (by simp at hs3 ⊢; omega) (fun e => by have := HK3.out z e.symm; omega)).trans ((Below.heap_alloc w3 _ z (by simp at hs3; omega)).trans (HW3.out z hz))); have HK4 := Lib.hid (own_up2 HK3.out hatv4 (by simp at hs3 ⊢; omega)); have HG4 := Lib.hid hgv4; clear hv4 hgv4 hatv4)
        | (refine step_append_at _ rfl (.tmp 23) (.tmp 25) rfl B v3 (0 + pl) ([] ++ ints (l.take pl)) (by simp [Act.eval]) HV3.out ⟨w1.heap.size + 1, 0, none⟩ 1 1 [(k : Int)] (by simp [Act.eval]) rfl HC3.out (by omega) (by simp at hs3 ⊢; omega) ?_; intro v4 w4 hv4 hgv4 hatv4; have HV4 := Lib.hid hv4; have hs4 := hgv4.size; have HW4 := Lib.hid (fun z (hz : z < w1.heap.size) => (hgv4.block z (by simp at hs3 ⊢; omega) (fun e => by have := HK3.out z e.symm; omega)).trans (HW3.out z hz)); have HK4 := Lib.hid (own_up2 HK3.out hatv4 (by simp at hs3 ⊢; omega)); have HG4 := Lib.hid hgv4; clear hv4 hgv4 hatv4)
        | (refine step_append_at _ rfl (.tmp 23) (.tmp 25) rfl B v3 (0 + pl) ([] ++ ints (l.take pl)) (by simp [Act.eval]) HV3.out ⟨w1.heap.size, 0, none⟩ 1 1 [(k : Int)] (by simp [Act.eval]) rfl HC3.out (by omega) (by simp at hs3 ⊢; omega) ?_; intro v4 w4 hv4 hgv4 hatv4; have HV4 := Lib.hid hv4; have hs4 := hgv4.size; have HW4 := Lib.hid (fun z (hz : z < w1.heap.size) => (hgv4.block z (by simp at hs3 ⊢; omega) (fun e => by have := HK3.out z e.symm; omega)).trans (HW3.out z hz)); have HK4 := Lib.hid (own_up2 HK3.out hatv4 (by simp at hs3 ⊢; omega)); have HG4 := Lib.hid hgv4; clear hv4 hgv4 hatv4)
        | (refine step_append_at _ rfl (.tmp 26) (.tmp 29) rfl B v4 (0 + pl + 1) ([] ++ ints (l.take pl) ++ ints [(k : Int)]) (by simp [Act.eval]) HV4.out ad (k - pl) (cl - pl) (l.drop pl) (by simp [Act.eval]) HLD.out (HDP.out _ HW4.out) (by omega) (by simp at hs3 hs4; omega) ?_; intro v5 w5 hv5 hgv5 hatv5))
      all_goals
        have hs5 := hgv5.size
        have HW5 := Lib.hid (fun z (hz : z < w1.heap.size) => (hgv5.block z (by simp at hs3 hs4; omega) (fun e => by have := HK4.out z e.symm; omega)).trans (HW4.out z hz))
        have HLEN : Hid ((l.take pl ++ [(k : Int)] ++ l.drop pl).length = k + 1) := by
          have h1 := HLT.out
          have h2 := HLD.out
          rw [Hid, List.length_append, List.length_append, h1, h2]
          simp; omega
        have HV5 : Hid (w5.ownsRow B 3 1 v5 (k + 1) (ints (l.take pl ++ [(k : Int)] ++ l.drop pl))) := by
          have e : 0 + pl + 1 + (k - pl) = k + 1 := by omega
          rw [e] at hv5
          simpa [ints, Hid] using hv5
        have HG5 : Hid (w1.grownBy w5 (some R)) := ⟨hgv5.os.trans (HG4.out.os.trans HG3.out.os), hgv5.tape.trans (HG4.out.tape.trans HG3.out.tape), hgv5.output.trans (HG4.out.output.trans HG3.out.output), by simp at hs3 hs4; omega, fun z hz _ => HW5.out z hz⟩
        have HR5 := Lib.hid (HR1.out.same (HW5.out R HR1.out.lt))
        have HB5 := Lib.hid (HB1.out.keep (fun b o hb => World.cell?_of_block (HW5.out b (by have := HR1.out.lt; omega))))
        have HGG := Lib.hid (grown_trans HG1.out HG5.out)
        clear hv5 hgv5 hatv5
        go_wp2
        go_roundw
        case rel => exact ⟨k + 1, l.take pl ++ [(k : Int)] ++ l.drop pl, q + 1, by omega, by omega, by go_num, HLEN, HV5, HR5, by omega, HB5, HGG⟩
        case measure => simp [intOf]; omega
    · obtain rfl : k = m := by omega
      go_wp2
      go_ret
      exact ⟨u5, l, q, rfl, by rw [HB.out]; unfold Own; rw [hl.out]; exact hown.out, ⟨hl.out, hrd.out, by omega⟩, hgr.out⟩
end Go.Proofs.YtgojojoanhilnabDoor

namespace Go.Proofs.YtgojojoanhilnabDoor
open Go.ChangeShapes Go.WideShapes Go.ChangeAt Go.RowKit

def OfL (k : Nat) (l : List Int) : Prop := (∀ j : Nat, j < k → (j : Int) ∈ l) ∧ l.getD 0 0 = 0
theorem ofL_one : OfL 1 [0] := ⟨fun j hj => by obtain rfl : j = 0 := by omega
                                               simp, rfl⟩
theorem ofL_step {k pl : Nat} {l : List Int} (_ : l.length = k) (h : OfL k l) (h1 : 1 ≤ pl) (_ : pl ≤ k) : OfL (k + 1) (l.take pl ++ [(k : Int)] ++ l.drop pl) := by
  refine ⟨fun j hj => ?_, ?_⟩
  · rcases Nat.lt_succ_iff_lt_or_eq.1 hj with hj | rfl
    · have := h.1 j hj
      rw [← List.take_append_drop pl l, List.mem_append] at this
      simp only [List.mem_append, List.mem_singleton]
      rcases this with h2 | h2
      · exact .inl (.inl h2)
      · exact .inr h2
    · simp
  · have h0 := h.2
    match l, pl, h1 with
    | [], pl + 1, _ =>
      have := h.1 0 (by rename_i hl _ _; simp at hl; omega)
      simp at this
    | x :: l, pl + 1, _ => simpa using h0
theorem ofL_ring {k : Nat} {l : List Int} (hl : l.length = k) (h : OfL k l) (h3 : 3 ≤ k) (h7 : k ≤ 7) : Ring l := by
  have := nodup_of_all k l hl h.1
  exact ⟨⟨by omega, by omega, fun x hx => by rw [hl]; exact this.2 x hx, this.1⟩, h.2⟩

set_option maxRecDepth 10000 in
set_option maxHeartbeats 2000000 in
theorem of91t_any (R n c H p m : Nat) (A : Option Addr) (w : World) (hR : RdAt w R A n c p) (hb : Byt w H A n) (hH : H ≤ R) (hp : p ≤ 90000) (hn : n ≤ 2000) (hm1 : 1 ≤ m) (hm : m ≤ 7) :
    Calls Tryd.prog 37 #[.pointer (some ⟨R, 0, none⟩), .int .i64 (m : Int)] w fun e w' => ∃ v l q, e = .returned v ∧ Own w' w.heap.size v l ∧ (l.length = m ∧ OfL m l ∧ RdAt w' R A n c q ∧ q ≤ p + 10) ∧ w.grownBy w' (some R) := by
  have HP := Lib.hid (fun V q k (h1 : RdAt V R A n c q) (h2 : Byt V H A n) (h3 : q ≤ 100000) (h4 : 1 ≤ k) (h5 : k ≤ 1000) => pick_any R n c H q k A V h1 h2 hH h3 hn h4 h5)
  have hRw := hR.lt
  have HO0 : Hid ((w.alloc (.cells #[.int .i64 0] 3)).ownsRow w.heap.size 3 1 (.slice (some ⟨w.heap.size, 0, none⟩) 1 1) 1 (ints [0])) := Lib.hid (World.ownsRow_lit w #[.int .i64 0] 1 (Nat.le_refl _) (by unfold maxLen; omega) rfl)
  have HG0 : Hid (w.grownBy (w.alloc (.cells #[.int .i64 0] 3)) (some R)) := World.grownBy_alloc w _ _
  have HR0 : Hid (RdAt (w.alloc (.cells #[.int .i64 0] 3)) R A n c p) := hR.same (Below.heap_alloc w _ R hRw)
  have HB0 := Lib.hid (hb.grown HG0.out hH)
  clear hR hb
  go_enter Tryd.func37, Tryd.ntmps37
  go_wp2
  generalize w.alloc (.cells #[.int .i64 0] 3) = W0 at *
  generalize hB : w.heap.size = B at *
  have HB := Lib.hid hB
  clear hB
  go_loopw [5, 6] (fun v i wr => ∃ (k : Nat) (l : List Int) (q : Nat), 1 ≤ k ∧ k ≤ m ∧ i = .int .i64 k ∧ Hid (l.length = k) ∧ Hid (OfL k l) ∧ Hid (wr.ownsRow B 3 1 v k (ints l)) ∧ Hid (RdAt wr R A n c q) ∧ q ≤ p + k ∧ Hid (Byt wr H A n) ∧ Hid (w.grownBy wr (some R))) (fun _ i _ => m - (intOf i).toNat)
  case atStart => exact ⟨1, [0], p, Nat.le_refl _, hm1, rfl, Lib.hid rfl, Lib.hid ofL_one, HO0, HR0, by omega, HB0, HG0⟩
  case round =>
    obtain ⟨k, l, q, hk1, hk, rfl, hl, hof, hown, hrd, hq, hby, hgr⟩ := hrel
    clear HO0 HR0 HB0 HG0
    by_cases hlt : k < m
    · obtain ⟨g, cl, cur, e, hgB, hgc, hkc, hcm⟩ : ∃ g cl cur, u5 = .slice (some ⟨g, 0, none⟩) k cl ∧ B ≤ g ∧ wr.heap[g]? = some (.cells cur 3 (0, 0)) ∧ k ≤ cl ∧ cl ≤ maxLen := by
        rcases hown.out.2 with ⟨_, h0⟩ | ⟨g, cap, cur, e, h1, h2, h3, h4, _⟩
        · omega
        · exact ⟨g, cap, cur, e, h1, h2, h3, h4⟩
      subst e
      have hgs := (Array.getElem?_eq_some_iff.1 hgc).1
      clear hgc
      go_wp2_with fail
      refine (HP.out wr q k hrd.out hby.out (by omega) hk1 (by omega)).mono ?_
      rintro e w1 ⟨⟨v1, hv1, rfl⟩, h1, h2, h3⟩
      have HR1 := Lib.hid h1
      have HB1 := Lib.hid (hby.out.grown h2 hH)
      have HG1 := Lib.hid (grown_trans hgr.out h2)
      have HS1 := Lib.hid h3
      have hBR : B ≤ w1.heap.size := by rw [h3]; omega
      have hg1 : g < w1.heap.size := by rw [h3]; omega
      have hcells : Hid (∀ j u, (ints l)[j]? = some u → w1.cell? ⟨g, j, none⟩ = some u) := by
        intro j u hu
        rcases hown.out.2 with ⟨e, _⟩ | ⟨g', cap, cur, e, _, hgg, _, _, _, ht⟩
        · cases e
        · injection e with e1 _ _
          injection e1 with e1
          injection e1 with e1
          subst e1
          have hb1 : w1.heap[g]? = wr.heap[g]? := h2.block g hgs (fun e => by have e1 : g = R := Option.some.inj e; omega)
          rw [cell_of_row w1 g j _ _ (0, 0) (hb1.trans hgg)]
          rw [← ht, List.getElem?_take] at hu
          split at hu
          · rw [← Array.getElem?_toList]; exact hu
          · cases hu
      clear h1 h2 h3 hrd hby hgr hown
      obtain ⟨pl, hpl⟩ : ∃ pl, pl = v1 + 1 := ⟨_, rfl⟩
      have hw1 : IntKind.i64.wrap (1 + (v1 : Int)) = (pl : Int) := by rw [IntWalk.i64_in _ (by omega)]; omega
      have hplk : pl ≤ k := by omega
      have hpl1 : 1 ≤ pl := by omega
      clear hpl hv1
      have hsA := fun W => slice_head W g k cl pl (by omega)
      obtain ⟨ad, hade⟩ : ∃ ad : Addr, ad = if cl = pl then ⟨g, 0, none⟩ else ⟨g, pl, none⟩ := ⟨_, rfl⟩
      have hsB : ∀ W : World, (Instr.slice 26 (.slice (some ⟨g, 0, none⟩) k cl) (some (.int .i64 (pl : Int))) none none).run Tryd.prog W = .ok (.slice (some ad) (k - pl) (cl - pl)) W := fun W => by
        rw [hade]; exact slice_tail W g k cl pl (by omega) (by omega)
      have had : pl < k → ad = ⟨g, pl, none⟩ := fun h => by rw [hade, if_neg (by omega)]
      clear hade
      have HTK : Hid (∀ W : World, (∀ z, z < w1.heap.size → W.heap[z]? = w1.heap[z]?) → ∀ j u, (ints (l.take pl))[j]? = some u → W.cell? ((⟨g, 0, none⟩ : Addr).add j) = some u) := fun W hW j u hu => by
        rw [Addr.add_lit, Nat.zero_add, World.cell?_of_block (w := w1) (hW g hg1)]
        refine hcells.out j u ?_
        simp only [ints, List.map_take, List.getElem?_take] at hu
        split at hu
        · exact hu
        · cases hu
      have HDP : Hid (∀ W : World, (∀ z, z < w1.heap.size → W.heap[z]? = w1.heap[z]?) → ∀ j u, (ints (l.drop pl))[j]? = some u → W.cell? (ad.add j) = some u) := fun W hW j u hu => by
        have hj : j < (l.drop pl).length := by
          have := (List.getElem?_eq_some_iff.1 hu).1
          simpa using this
        rw [List.length_drop, hl.out] at hj
        rw [had (by omega), Addr.add_lit, World.cell?_of_block (w := w1) (hW g hg1)]
        refine hcells.out (pl + j) u ?_
        simp only [ints, List.map_drop, List.getElem?_drop] at hu
        exact hu
      have HLT : Hid ((l.take pl).length = pl) := by rw [Hid, List.length_take, hl.out]; omega
      have HLD : Hid ((l.drop pl).length = k - pl) := by rw [Hid, List.length_drop, hl.out]
      have HE0 : Hid ((w1.alloc (.cells #[] 3)).drew.ownsRow B 3 1 (.slice (some ⟨w1.heap.size, 0, none⟩) 0 0) 0 []) := Lib.hid (show _ from own_empty w1 _ hBR)
      have HE1 : Hid ((w1.alloc (.cells #[] 3)).ownsRow B 3 1 (.slice (some ⟨w1.heap.size, 0, none⟩) 0 0) 0 []) := Lib.hid (own_empty w1 _ hBR)
      have HE2 : Hid (((w1.alloc (.cells #[.int .i64 (k : Int)] 3)).alloc (.cells #[] 3)).ownsRow B 3 1 (.slice (some ⟨w1.heap.size + 1, 0, none⟩) 0 0) 0 []) := by
        have h := own_empty (w1.alloc (.cells #[.int .i64 (k : Int)] 3)) B (by simp; omega)
        rw [show (w1.alloc (.cells #[.int .i64 (k : Int)] 3)).heap.size = w1.heap.size + 1 by simp] at h
        exact h
      clear hcells had
      go_wp2
      go_region_law (first
        | (refine step_append_at _ rfl (.tmp 19) (.tmp 22) rfl B _ 0 [] (by simp [Act.eval]) HE0.out ⟨g, 0, none⟩ pl cl (l.take pl) (by simp [Act.eval]) HLT.out (HTK.out _ (fun z hz => Below.heap_alloc _ _ _ hz)) (by omega) (by simp; omega) ?_; intro v3 w3 hv3 hgv3 hatv3; have HV3 := Lib.hid hv3; have hs3 := hgv3.size; have HW3 := Lib.hid (fun z (hz : z < w1.heap.size) => (hgv3.block z (by simp; omega) (by simp [Value.ownBlock]; omega)).trans (Below.heap_alloc w1 _ z hz)); have HK3 := Lib.hid (own_up w1 hatv3); have HG3 := Lib.hid hgv3; clear hv3 hgv3 hatv3)
        | (refine step_append_at _ rfl (.tmp 19) (.tmp 22) rfl B _ 0 [] (by simp [Act.eval]) (HE1.out.alloc _).drew ⟨g, 0, none⟩ pl cl (l.take pl) (by simp [Act.eval]) HLT.out (HTK.out _ (fun z hz => (Below.heap_alloc _ _ _ (by simp; omega)).trans (Below.heap_alloc _ _ _ hz))) (by omega) (by simp; omega) ?_; intro v3 w3 hv3 hgv3 hatv3; have HV3 := Lib.hid hv3; have hs3 := hgv3.size; have HW3 := Lib.hid (fun z (hz : z < w1.heap.size) => (hgv3.block z (by simp; omega) (by simp [Value.ownBlock]; omega)).trans ((Below.heap_alloc _ _ z (by simp; omega)).trans (Below.heap_alloc w1 _ z hz))); have HK3 := Lib.hid (own_up3 w1 hatv3); have HC3 := Lib.hid (two_cell w1 k hgv3); have HG3 := Lib.hid hgv3; clear hv3 hgv3 hatv3)
        | (refine step_append_at _ rfl (.tmp 19) (.tmp 22) rfl B _ 0 [] (by simp [Act.eval]) HE2.out.drew ⟨g, 0, none⟩ pl cl (l.take pl) (by simp [Act.eval]) HLT.out (HTK.out _ (fun z hz => (Below.heap_alloc _ _ _ (by simp; omega)).trans (Below.heap_alloc _ _ _ hz))) (by omega) (by simp; omega) ?_; intro v3 w3 hv3 hgv3 hatv3; have HV3 := Lib.hid hv3; have hs3 := hgv3.size; have HW3 := Lib.hid (fun z (hz : z < w1.heap.size) => (hgv3.block z (by simp; omega) (by simp [Value.ownBlock]; omega)).trans ((Below.heap_alloc _ _ z (by simp; omega)).trans (Below.heap_alloc w1 _ z hz))); have HK3 := Lib.hid (own_up4 w1 hatv3); have HC3 := Lib.hid (two_cell2 w1 k hgv3); have HG3 := Lib.hid hgv3; clear hv3 hgv3 hatv3)
        | (refine step_append_at _ rfl (.tmp 23) (.tmp 25) rfl B v3 (0 + pl) ([] ++ ints (l.take pl)) (by simp [Act.eval]) (HV3.out.alloc _) ⟨w3.heap.size, 0, none⟩ 1 1 [(k : Int)] (by simp [Act.eval]) rfl (one_cell w3 _ _) (by omega) (by simp at hs3 ⊢; omega) ?_; intro v4 w4 hv4 hgv4 hatv4; have HV4 := Lib.hid hv4; have hs4 := hgv4.size; have HW4 := Lib.hid (fun z (hz : z < w1.heap.size) => (hgv4.block z (by simp at hs3 ⊢; omega) (fun e => by have := HK3.out z e.symm; omega)).trans ((Below.heap_alloc w3 _ z (by simp at hs3; omega)).trans (HW3.out z hz))); have HK4 := Lib.hid (own_up2 HK3.out hatv4 (by simp at hs3 ⊢; omega)); have HG4 := Lib.hid hgv4; clear hv4 hgv4 hatv4)
        | (refine step_append_at _ rfl (.tmp 23) (.tmp 25) rfl B v3 (0 + pl) ([] ++ ints (l.take pl)) (by simp [Act.eval]) HV3.out ⟨w1.heap.size + 1, 0, none⟩ 1 1 [(k : Int)] (by simp [Act.eval]) rfl HC3.out (by omega) (by simp at hs3 ⊢; omega) ?_; intro v4 w4 hv4 hgv4 hatv4; have HV4 := Lib.hid hv4; have hs4 := hgv4.size; have HW4 := Lib.hid (fun z (hz : z < w1.heap.size) => (hgv4.block z (by simp at hs3 ⊢; omega) (fun e => by have := HK3.out z e.symm; omega)).trans (HW3.out z hz)); have HK4 := Lib.hid (own_up2 HK3.out hatv4 (by simp at hs3 ⊢; omega)); have HG4 := Lib.hid hgv4; clear hv4 hgv4 hatv4)
        | (refine step_append_at _ rfl (.tmp 23) (.tmp 25) rfl B v3 (0 + pl) ([] ++ ints (l.take pl)) (by simp [Act.eval]) HV3.out ⟨w1.heap.size, 0, none⟩ 1 1 [(k : Int)] (by simp [Act.eval]) rfl HC3.out (by omega) (by simp at hs3 ⊢; omega) ?_; intro v4 w4 hv4 hgv4 hatv4; have HV4 := Lib.hid hv4; have hs4 := hgv4.size; have HW4 := Lib.hid (fun z (hz : z < w1.heap.size) => (hgv4.block z (by simp at hs3 ⊢; omega) (fun e => by have := HK3.out z e.symm; omega)).trans (HW3.out z hz)); have HK4 := Lib.hid (own_up2 HK3.out hatv4 (by simp at hs3 ⊢; omega)); have HG4 := Lib.hid hgv4; clear hv4 hgv4 hatv4)
        | (refine step_append_at _ rfl (.tmp 26) (.tmp 29) rfl B v4 (0 + pl + 1) ([] ++ ints (l.take pl) ++ ints [(k : Int)]) (by simp [Act.eval]) HV4.out ad (k - pl) (cl - pl) (l.drop pl) (by simp [Act.eval]) HLD.out (HDP.out _ HW4.out) (by omega) (by simp at hs3 hs4; omega) ?_; intro v5 w5 hv5 hgv5 hatv5))
      all_goals
        have hs5 := hgv5.size
        have HW5 := Lib.hid (fun z (hz : z < w1.heap.size) => (hgv5.block z (by simp at hs3 hs4; omega) (fun e => by have := HK4.out z e.symm; omega)).trans (HW4.out z hz))
        have HLEN : Hid ((l.take pl ++ [(k : Int)] ++ l.drop pl).length = k + 1) := by
          have h1 := HLT.out
          have h2 := HLD.out
          rw [Hid, List.length_append, List.length_append, h1, h2]
          simp; omega
        have HV5 : Hid (w5.ownsRow B 3 1 v5 (k + 1) (ints (l.take pl ++ [(k : Int)] ++ l.drop pl))) := by
          have e : 0 + pl + 1 + (k - pl) = k + 1 := by omega
          rw [e] at hv5
          simpa [ints, Hid] using hv5
        have HG5 : Hid (w1.grownBy w5 (some R)) := ⟨hgv5.os.trans (HG4.out.os.trans HG3.out.os), hgv5.tape.trans (HG4.out.tape.trans HG3.out.tape), hgv5.output.trans (HG4.out.output.trans HG3.out.output), by simp at hs3 hs4; omega, fun z hz _ => HW5.out z hz⟩
        have HR5 := Lib.hid (HR1.out.same (HW5.out R HR1.out.lt))
        have HB5 := Lib.hid (HB1.out.keep (fun b o hb => World.cell?_of_block (HW5.out b (by have := HR1.out.lt; omega))))
        have HGG := Lib.hid (grown_trans HG1.out HG5.out)
        have HOF := Lib.hid (ofL_step hl.out hof.out hpl1 hplk)
        clear hv5 hgv5 hatv5
        go_wp2
        go_roundw
        case rel => exact ⟨k + 1, l.take pl ++ [(k : Int)] ++ l.drop pl, q + 1, by omega, by omega, by go_num, HLEN, HOF, HV5, HR5, by omega, HB5, HGG⟩
        case measure => simp [intOf]; omega
    · obtain rfl : k = m := by omega
      go_wp2
      go_ret
      exact ⟨u5, l, q, rfl, by rw [HB.out]; unfold Own; rw [hl.out]; exact hown.out, ⟨hl.out, hof.out, hrd.out, by omega⟩, hgr.out⟩
end Go.Proofs.YtgojojoanhilnabDoor

namespace Go.Proofs.YtgojojoanhilnabDoor
open Go.ChangeShapes Go.WideShapes Go.ChangeAt Go.RowKit

theorem OwnG.set {w : World} {B g o n c : Nat} {l : List Int} (h : OwnG w B (.slice (some ⟨g, o, none⟩) n c) l) {k : Nat} (hk : k < l.length) (u : Int) :
    OwnG (w.setCell ⟨g, o + k, none⟩ (.int .i64 u)) B (.slice (some ⟨g, o, none⟩) n c) (l.set k u) := by
  rcases h with ⟨e, _⟩ | ⟨g', o', c', cur, e, hb, hg, hc⟩
  · cases e
  · injection e with e1 e2 e3
    injection e1 with e1
    injection e1 with e4 e5 _
    subst e4; subst e5; subst e2; subst e3
    refine .inr ⟨g, o, c, cur.setIfInBounds (o + k) (.int .i64 u), by rw [List.length_set], hb, heap_setCell_same w g (o + k) cur _ _ hg, fun j hj => ?_⟩
    rw [List.length_set] at hj
    have hs : o + k < cur.size := (Array.getElem?_eq_some_iff.1 (hc k hk)).1
    rw [Array.getElem?_setIfInBounds]
    by_cases ejk : j = k
    · subst ejk
      rw [if_pos rfl, if_pos hs]
      simp [List.getD_eq_getElem?_getD, hj]
    · rw [if_neg (by omega), hc j hj]
      simp [List.getD_eq_getElem?_getD, Ne.symm ejk]
theorem OwnG.tail {w : World} {B g o n c : Nat} {l : List Int} (h : OwnG w B (.slice (some ⟨g, o, none⟩) n c) l) (h1 : 1 ≤ l.length) :
    OwnG w B (.slice (some ⟨g, o + 1, none⟩) (n - 1) (c - 1)) (l.drop 1) := by
  rcases h with ⟨e, _⟩ | ⟨g', o', c', cur, e, hb, hg, hc⟩
  · cases e
  · injection e with e1 e2 e3
    injection e1 with e1
    injection e1 with e4 e5 _
    subst e4; subst e5; subst e2; subst e3
    refine .inr ⟨g, o + 1, c - 1, cur, by rw [List.length_drop], hb, hg, fun j hj => ?_⟩
    rw [List.length_drop] at hj
    rw [show o + 1 + j = o + (1 + j) by omega, hc (1 + j) (by omega)]
    simp [List.getD_eq_getElem?_getD, Nat.add_comm]

end Go.Proofs.YtgojojoanhilnabDoor

namespace Go.Proofs.YtgojojoanhilnabDoor
open Go.ChangeShapes Go.WideShapes Go.ChangeAt Go.RowKit

/-- A short slice at hand: it reads as l in the world as it is. -/
def Rw (w : World) (A : Option Addr) (n c : Nat) (l : List Int) : Prop := Rd w w.heap.size A n l ∧ n ≤ c ∧ c ≤ 9223372036854775807 ∧ n ≤ 7
/-- As below, its capacity not told. -/
def NewG (w : World) (v : Value) (l : List Int) : Prop := ∃ A n c, v = .slice A n c ∧ Rw w A n n l
def NewR (w : World) (v : Value) (l : List Int) : Prop := ∃ A n c, v = .slice A n c ∧ Rw w A n c l
section
variable {w w' w1 w2 : World} {A : Option Addr} {n c B : Nat} {l : List Int} {v : Value}
theorem Rw.step (h : Rw w A n c l) (k : Below w.heap.size w w') : Rw w' A n c l := ⟨(h.1.below k).more k.size, h.2⟩
theorem Rw.rd (h : Rw w A n c l) : Rd w w.heap.size A n l := h.1
theorem Rw.big (h : Rw w A n c l) : n ≤ 1048576 := by have := h.2.2.2; omega
theorem Rw.len (h : Rw w A n c l) : l.length = n := h.1.len
theorem bl_step (h : Below w.heap.size w w1) (k : Below w1.heap.size w1 w2) : Below w.heap.size w w2 := h.trans (k.mono h.size)
theorem Own.newR (h : Own w B v l) (h7 : l.length ≤ 7) : NewR w v l := by
  obtain ⟨hg, A, c, e, hc, hm⟩ := h.rowV5
  subst e
  exact ⟨A, _, c, rfl, hg.rd.2, hc, hm, h7⟩
theorem OwnG.newG (h : OwnG w B v l) (h7 : l.length ≤ 7) : NewG w v l := by
  obtain ⟨A, c, e⟩ := h.slice
  subst e
  have := h.rd.2
  exact ⟨A, _, c, rfl, this, Nat.le_refl _, by omega, h7⟩
theorem RowV.newR (h : RowV w B v l) (h7 : l.length ≤ 7) : NewR w v l := by
  obtain ⟨hg, A, c, e, hc, hm⟩ := h
  subst e
  exact ⟨A, _, c, rfl, hg.rd.2, hc, hm, h7⟩
theorem Rw.at_ (h : Rw w A n c l) (hn : 0 < n) : ∃ b o, A = some ⟨b, o, none⟩ ∧ b < w.heap.size ∧ ∀ k, k < n → w.cell? ⟨b, o + k, none⟩ = some (.int .i64 (l.getD k 0)) := h.1.at_ hn
end
end Go.Proofs.YtgojojoanhilnabDoor

namespace Go.Proofs.YtgojojoanhilnabDoor
open Go.ChangeShapes Go.WideShapes Go.ChangeAt Go.RowKit

theorem u8_in {v : Int} (h : (Lit.int .u8 v).wf = true) : 0 ≤ v ∧ v < 256 := by
  have e : IntKind.u8.min ≤ v ∧ v ≤ IntKind.u8.max := by simpa [Lit.wf] using h
  simp [IntKind.min, IntKind.max, IntKind.signed, IntKind.bits] at e
  omega
theorem byt_of_row {w : World} {a : Option Addr} {len cap : Nat} {zs : List Int} (h : IsRow .u8 w a len cap zs) : Byt w w.heap.size a len ∧ len ≤ cap ∧ cap ≤ 9223372036854775807 := by
  rcases h with ⟨rfl, rfl, rfl, rfl⟩ | ⟨x, rfl, hl, hm, hz, hcell, hwf⟩
  · exact ⟨fun h => absurd h (by omega), by omega, by omega⟩
  · unfold maxLen at hm
    refine ⟨fun hp => ?_, hl, hm⟩
    obtain ⟨b, off, spot⟩ := x
    have hc := hcell 0 (by omega)
    have hspot : spot = none := by simpa [Addr.add] using World.cell?_spot hc
    subst hspot
    refine ⟨b, off, rfl, World.block_lt_of_cell? w ⟨b, off, none⟩ (by simpa [Addr.add] using hc), fun k hk => ?_⟩
    have h1 := hcell k (by omega)
    have h2 := u8_in (hwf _ (getD_mem zs k (by omega)))
    rw [Addr.add_lit] at h1
    exact ⟨(zs.getD k 0).toNat, by omega, by rw [h1, Int.toNat_of_nonneg h2.1]⟩

theorem below_grown {w w1 w2 : World} {R : Nat} (h : Below R w w1) (hg : w1.grownBy w2 (some R)) (hR : R < w1.heap.size) : Below R w w2 :=
  h.grown hg (by omega) (by intro k hk; have e : R = k := Option.some.inj hk; omega)

end Go.Proofs.YtgojojoanhilnabDoor

namespace Go.Proofs.YtgojojoanhilnabDoor
open Go.ChangeShapes Go.WideShapes Go.ChangeAt Go.RowKit

set_option maxHeartbeats 400000 in
theorem sameInts_drew (A B : Option Addr) (n m c d : Nat) (xs ys : List Int) (H : Nat) (w : World) (hx : Rd w H A n xs) (hy : Rd w H B m ys) (hn : n ≤ 1048576) (_ : m ≤ 1048576) :
    Calls Tryd.prog 9 #[.slice A n c, .slice B m d] w fun e w' => e = .returned (.bool (same xs ys)) ∧ ∃ m, w' = w.drewN m := by
  have hlx := Lib.hid hx.len
  have hly := Lib.hid hy.len
  by_cases hnm : n = m
  · obtain ⟨r, hr⟩ : ∃ r, r = same xs ys := ⟨_, rfl⟩
    rw [← hr]
    have HR := Lib.hid hr
    clear hr
    subst hnm
    go_enter Tryd.func9, Tryd.ntmps9
    go_wp2
    go_loopw [5] (fun i wr => ∃ k : Nat, k ≤ n ∧ i = .int .i64 k ∧ Hid (xs.take k = ys.take k) ∧ Rd wr H A n xs ∧ Rd wr H B n ys ∧ ∃ q, wr = w.drewN q) (fun i _ => n - (intOf i).toNat)
    case atStart => exact ⟨0, Nat.zero_le _, rfl, by simp [Hid], hx, hy, 0, rfl⟩
    case round =>
      obtain ⟨k, hk, rfl, htk, hrx, hry, q, hbl⟩ := hrel
      have HBL := Lib.hid hbl
      clear hbl
      by_cases hlt : k < n
      · obtain ⟨b, o, rfl, hbB, hcs⟩ := hrx.at_ (by omega)
        obtain ⟨b', o', rfl, hbB', hcs'⟩ := hry.at_ (by omega)
        have hc := hcs k hlt
        have hc' := hcs' k hlt
        have T1 := Lib.hid (take_eq_step xs ys k (by rw [hlx.out]; exact hlt) (by rw [hly.out]; exact hlt) htk.out)
        have T2 : Hid (xs.getD k 0 ≠ ys.getD k 0 → xs ≠ ys) := fun h e => h (by rw [e])
        clear hcs hcs' hx hy
        generalize xs.getD k 0 = x at hc T1 T2
        generalize ys.getD k 0 = y at hc' T1 T2
        by_cases hxy : x = y
        · have hb : (x != y) = false := by simp [hxy]
          have T3 := Lib.hid (T1.out hxy)
          clear hxy T1 T2
          go_wp2
          go_quiet (fail)
          go_wp2
          go_roundw
          case rel => exact ⟨k + 1, by omega, by go_num, T3, hrx.drewN _, hry.drewN _, q + nq, by rw [HBL.out, World.drewN_drewN]⟩
          case measure => simp [intOf]; omega
        · have hb : (x != y) = true := by simp [hxy]
          have T3 := Lib.hid (T2.out hxy)
          clear hxy T1 T2
          go_wp2
          go_quiet (fail)
          go_wp2
          go_ret
          exact ⟨by rw [HR.out]; simp [same, T3.out], q + nq, by rw [HBL.out, World.drewN_drewN]⟩
      · go_wp2
        go_ret
        obtain rfl : k = n := by omega
        have e : xs = ys := by
          have := htk.out
          rwa [List.take_of_length_le (by rw [hlx.out]; omega), List.take_of_length_le (by rw [hly.out]; omega)] at this
        exact ⟨by rw [HR.out]; simp [same, e], q, HBL.out⟩
  · have hr : same xs ys = false := by
      simp only [same, decide_eq_false_iff_not]
      rintro rfl
      exact hnm (hlx.out.symm.trans hly.out)
    rw [hr]
    have hb : ((n : Int) != (m : Int)) = true := by simp; omega
    clear hr hnm
    go_enter Tryd.func9, Tryd.ntmps9
    go_wp2
    go_ret
    exact ⟨rfl, 0, rfl⟩
theorem sameI_drew {w : World} {A B : Option Addr} {n c m d c' d' : Nat} {xs ys : List Int} (h : Rw w A n c xs) (k : Rw w B m d ys) :
    Calls Tryd.prog 9 #[.slice A n c', .slice B m d'] w fun e w' => e = .returned (.bool (same xs ys)) ∧ ∃ m, w' = w.drewN m :=
  sameInts_drew A B n m c' d' xs ys w.heap.size w h.rd k.rd h.big k.big
theorem sameG_any {w : World} {A B : Option Addr} {n c m d c' d' : Nat} {xs ys : List Int} (h : Rw w A n c xs) (k : Rw w B m d ys) :
    Calls Tryd.prog 9 #[.slice A n c', .slice B m d'] w fun e w' => e = .returned (.bool (same xs ys)) ∧ Below w.heap.size w w' :=
  (sameI_drew h k).mono fun e w' ⟨e1, q, e2⟩ => ⟨e1, by subst e2; exact below_drewN (Below.refl _ _) q⟩
theorem sameI_any {w : World} {A B : Option Addr} {n c m d : Nat} {xs ys : List Int} (h : Rw w A n c xs) (k : Rw w B m d ys) :
    Calls Tryd.prog 9 #[.slice A n c, .slice B m d] w fun e w' => e = .returned (.bool (same xs ys)) ∧ Below w.heap.size w w' := sameG_any h k
theorem same_self (l : List Int) : same l l = true := by simp [same]
theorem same_eq {l m : List Int} (h : l = m) : same l m = true := by simp [same, h]
theorem same_ne {l m : List Int} (h : l ≠ m) : same l m = false := by simp [same, h]
end Go.Proofs.YtgojojoanhilnabDoor
