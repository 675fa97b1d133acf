/- The laws' drawer of ring terms: whole texts. -/
import Derived.Test.YtoifdfbhhdedbaaDoorDraw23
namespace Go.Proofs.YtoifdfbhhdedbaaDoor
open Go.ChangeShapes Go.WideShapes Go.ChangeAt Go.RowKit

/-- A drawer's own row of bytes. -/
def Own8 (w : World) (B : Nat) (v : Value) (L : List UInt8) : Prop := w.ownsRow B 5 1 v L.length (L.map e8)
def ap24 (ts : Array TypeId) (ty : TypeId) (args : Array Value) : Sem Value := Builtin.append_ ts ty args
theorem ap24_fold (ts : Array TypeId) (ty : TypeId) (args : Array Value) : Builtin.append_ ts ty args = ap24 ts ty args := rfl
theorem u8_info24 : (Tryd.prog.info? 5).map (fun i => (i.zero, i.size, i.bytes)) = some (some (.int .u8 0), 1, 1) := by kernel_rfl
theorem own8_step {V : World} {B : Nat} {v : Value} {L : List UInt8} (h : Own8 V B v L) (hB : B ≤ V.heap.size) (hl : L.length ≤ 3000) (c : UInt8) (x : Int) (hx : (c.toNat : Int) = x) :
    ∃ v' w', (∀ ty, (ap24 #[22, 22] ty #[v, .slice (some ⟨V.heap.size, 0, none⟩) 1 1]).run Tryd.prog (V.alloc (.cells #[.int .u8 x] 5)) = .ok v' w') ∧ Own8 w' B v' (L ++ [c]) ∧ (V.alloc (.cells #[.int .u8 x] 5)).grownBy w' v.ownBlock := by
  subst hx
  obtain ⟨i0, hi, hz0, hz1, hz2⟩ := info_parts u8_info24
  obtain ⟨v', w', hrun, hown, hgr, _⟩ := run_append_own (P := Tryd.prog) (V.alloc (.cells #[.int .u8 (c.toNat : Int)] 5)) B 22 22 5 i0 (.int .u8 0) 1 1 Tryd.underlying22 hi hz0 hz1 hz2 rfl (by decide) v L.length (L.map e8) (World.ownsRow.alloc h _) ⟨V.heap.size, 0, none⟩ 1 1 [.int .u8 (c.toNat : Int)] rfl (one_cell V _ _) (by simp [Value.oneCell']) (by unfold maxLen; omega) (by omega) (by simp; omega)
  refine ⟨v', w', fun _ => hrun, ?_, hgr⟩
  unfold Own8
  simpa [e8] using hown
theorem own8_str {w : World} {B : Nat} {v : Value} {L : List UInt8} (h : Own8 w B v L) (hp : 0 < L.length) : (convert 22 9 v).run Tryd.prog w = .ok (.string (bs L)) w := by
  obtain ⟨g, cap, rfl, _⟩ : ∃ g cap, v = .slice (some ⟨g, 0, none⟩) L.length cap ∧ True := by
    rcases h.2 with ⟨e, h0⟩ | ⟨g, cap, cur, e, _⟩
    · omega
    · exact ⟨g, cap, e, trivial⟩
  refine run_convert_bytes_back (P := Tryd.prog) w 22 9 5 ⟨g, 0, none⟩ cap L Tryd.underlying22 Tryd.underlying5 Tryd.underlying9 fun j hj => ?_
  exact World.ownsRow.cells h rfl j _ (by simp [hj, e8])
theorem grown_own {w V w' : World} {R : Nat} {o : Obj} {row : Option Nat} (h : w.grownBy V (some R)) (hg : (V.alloc o).grownBy w' row) (hk : ∀ k, row = some k → w.heap.size ≤ k) : w.grownBy w' (some R) := by
  have hs := h.size
  refine ⟨hg.os.trans h.os, hg.tape.trans h.tape, hg.output.trans h.output, by have := hg.size; simp at this; omega, fun i hi hr => ?_⟩
  have h1 := hg.block i (by simp; omega) (fun e => by have := hk i e.symm; omega)
  exact h1.trans ((Below.heap_alloc V o i (by omega)).trans (h.block i hi hr))

/-- What the drawer of texts leaves. -/
def TextD (R n c p : Nat) (A : Option Addr) (w : World) (e : Ending) (w' : World) : Prop := ∃ s p', e = .returned (.string s) ∧ s.size ≤ 100 ∧ RdAt w' R A n c p' ∧ p' ≤ p + 100 ∧ w.grownBy w' (some R)

attribute [local go_sem ↓] ap24_fold in
set_option maxRecDepth 10000 in
set_option maxHeartbeats 4000000 in
theorem text92_any (R n c H p : Nat) (A : Option Addr) (w : World) (hR : RdAt w R A n c p) (hb : Byt w H A n) (hH : H ≤ R) (hp : p ≤ 80000) (hn : n ≤ 2000) :
    Calls Tryd.prog 36 #[.pointer (some ⟨R, 0, none⟩)] w (TextD R n c p A w) := by
  have HP := Lib.hid (fun V q k (h1 : RdAt V R A n c q) (h2 : Byt V H A n) (h3 : q ≤ 100000) (h4 : 1 ≤ k) (h5 : k ≤ 1000) => pick_any R n c H q k A V h1 h2 hH h3 hn h4 h5)
  have HS := Lib.hid (size91_any R n c H p 7 A w hR hb hH (by omega) hn (by omega) (by omega))
  have HB := Lib.hid hb
  have hRw := hR.lt
  clear hR hb
  go_enter Tryd.func36, Tryd.ntmps36
  go_wp2_with fail
  refine HS.out.mono ?_
  rintro e w1 ⟨⟨m, hm3, hm7, rfl⟩, h1, h2, h3⟩
  have HB1 := Lib.hid (HB.out.grown h2 hH)
  have HG1 := Lib.hid h2
  have HOF := Lib.hid (of91t_any R n c H (p + 1) m A w1 h1 HB1.out hH (by omega) hn (by omega) hm7)
  have hR1 := h1.lt
  clear h1 h2 HS
  go_wp2_with fail
  refine HOF.out.mono ?_
  rintro e w2 ⟨av, l, q2, rfl, hown, ⟨hll, hof, h21, hq2⟩, h22⟩
  have hring := ofL_ring hll hof hm3 hm7
  have hin : Hid (∀ j, j < m → 0 ≤ l.getD j 0 ∧ l.getD j 0 < 7) := fun j hj => by
    have := hring.1.2.2.1 (l.getD j 0) (getD_mem l j (by omega))
    omega
  obtain ⟨g, cap, rfl, hgB, hgc⟩ : ∃ g cap, av = .slice (some ⟨g, 0, none⟩) m cap ∧ w1.heap.size ≤ g ∧ g < w2.heap.size := by
    rcases hown.2 with ⟨e, h0⟩ | ⟨g, cap, cur, e, h1, h2, _⟩
    · omega
    · exact ⟨g, cap, by rw [e, hll], h1, (Array.getElem?_eq_some_iff.1 h2).1⟩
  have hcell : Hid (∀ j, j < m → w2.cell? ⟨g, j, none⟩ = some (.int .i64 (l.getD j 0))) := fun j hj => by
    have := World.ownsRow.cells hown rfl j (.int .i64 (l.getD j 0)) (by simp [ints, List.getD_eq_getElem?_getD, hll, hj])
    rw [show (⟨g, 0, none⟩ : Addr).add j = ⟨g, j, none⟩ by unfold Addr.add; by_cases h : j = 0 <;> simp [h]] at this
    exact this
  have hgR : g ≠ R := by omega
  have HG2 := Lib.hid (grown_trans HG1.out h22)
  have HB2 := Lib.hid (HB.out.grown HG2.out hH)
  have HR2 := Lib.hid h21
  clear hown hll hof hring h21 h22 HOF HB1 HG1
  go_wp2_with fail
  refine (HP.out w2 q2 m HR2.out HB2.out (by omega) (by omega) (by omega)).mono ?_
  rintro e w3 ⟨⟨k, hk, rfl⟩, h31, h32, h33⟩
  have HR3 := Lib.hid h31
  have HG3 := Lib.hid (grown_trans HG2.out h32)
  have HB3 := Lib.hid (HB.out.grown HG3.out hH)
  have hcell3 : Hid (∀ j, j < m → w3.cell? ⟨g, j, none⟩ = some (.int .i64 (l.getD j 0))) := fun j hj => h32.cell (hcell.out j hj) (fun e => hgR (by have e1 : g = R := Option.some.inj e; exact e1))
  have hR3 := h31.lt
  have hw3 : w.heap.size ≤ w3.heap.size := HG3.out.size
  have hg3 : g < w3.heap.size := by omega
  have HO0 : Hid (Own8 (w3.alloc (.cells #[] 5)) w3.heap.size (.slice (some ⟨w3.heap.size, 0, none⟩) 0 0) []) := World.ownsRow_lit w3 #[] 0 (Nat.le_refl _) (by unfold maxLen; omega) rfl
  have HR4 : Hid (RdAt (w3.alloc (.cells #[] 5)) R A n c (q2 + 1)) := HR3.out.same (Below.heap_alloc w3 _ R hR3)
  have HG4 : Hid (w.grownBy (w3.alloc (.cells #[] 5)) (some R)) := grown_trans HG3.out (World.grownBy_alloc w3 _ _)
  have HB4 := Lib.hid (HB.out.grown HG4.out hH)
  have hcell4 : Hid (∀ j, j < m → (w3.alloc (.cells #[] 5)).cell? ⟨g, j, none⟩ = some (.int .i64 (l.getD j 0))) := fun j hj => (World.cell?_of_block (a := ⟨g, j, none⟩) (Below.heap_alloc w3 _ g hg3)).trans (hcell3.out j hj)
  obtain ⟨B, hBe⟩ : ∃ B, B = w3.heap.size := ⟨_, rfl⟩
  have hRB : R < B := by omega
  have hgB : g < B := by omega
  have hwB : w.heap.size ≤ B := by omega
  have hBW : B ≤ (w3.alloc (.cells #[] 5)).heap.size := by simp; omega
  rw [← hBe] at HO0
  have HBE := Lib.hid hBe
  clear h31 h32 h33 HR3 HG3 HB3 hcell hcell3 HR2 HG2 HB2 hg3 hw3 hR3 hBe hR1 h3
  go_wp2_with fail
  rw [← HBE.out]
  generalize hW0 : w3.alloc (.cells #[] 5) = W0 at *
  have HW0 := Lib.hid hW0
  clear hW0
  go_loopw [5, 6] (fun v i wr => ∃ (j : Nat) (L : List UInt8), j ≤ m ∧ i = .int .i64 j ∧ L.length = j ∧ Hid (Own8 wr B v L) ∧ Hid (∀ j, j < m → wr.cell? ⟨g, j, none⟩ = some (.int .i64 (l.getD j 0))) ∧ Hid (RdAt wr R A n c (q2 + 1)) ∧ Hid (w.grownBy wr (some R)) ∧ B ≤ wr.heap.size) (fun _ i _ => m - (intOf i).toNat)
  case atStart => exact ⟨0, [], Nat.zero_le _, rfl, rfl, HO0, hcell4, HR4, HG4, hBW⟩
  case round =>
    obtain ⟨j, L, hj, rfl, hL, HO, HC, HR, HG, hBr⟩ := hrel
    clear HO0 hcell4 HR4 HG4 HB4 hBW
    by_cases hlt : j < m
    · have hr : (j + k) % m < m := Nat.mod_lt _ (by omega)
      have ht : Int.tmod ((j : Int) + (k : Int)) (m : Int) = (((j + k) % m : Nat) : Int) := by rw [Int.tmod_eq_emod_of_nonneg (by omega)]; simp
      obtain ⟨r, hre⟩ : ∃ r, r = (j + k) % m := ⟨_, rfl⟩
      rw [← hre] at ht hr
      have hc := HC.out r hr
      obtain ⟨x0, x7⟩ := hin.out r hr
      obtain ⟨x, hx⟩ : ∃ x, x = l.getD r 0 := ⟨_, rfl⟩
      rw [← hx] at hc x0 x7
      obtain ⟨v', w', hap, hown, hgr⟩ := own8_step HO.out hBr (by omega) (UInt8.ofNat (97 + x.toNat)) (97 + x) (by simp; omega)
      have HOW := Lib.hid hown
      have HGW := Lib.hid (grown_own HG.out hgr fun k hk => Nat.le_trans hwB (World.ownsRow.lt HO.out k hk).1)
      have hbk : ∀ i, i < B → w'.heap[i]? = wr.heap[i]? := fun i hi => (hgr.block i (by simp; omega) (fun e => by have := (World.ownsRow.lt HO.out i e.symm).1; omega)).trans (Below.heap_alloc wr _ i (by omega))
      have HRW := Lib.hid (HR.out.same (hbk R hRB))
      have HCW : Hid (∀ j, j < m → w'.cell? ⟨g, j, none⟩ = some (.int .i64 (l.getD j 0))) := fun j hj => (World.cell?_of_block (a := ⟨g, j, none⟩) (hbk g hgB)).trans (HC.out j hj)
      have hBw : B ≤ w'.heap.size := by have := hgr.size; simp at this; omega
      clear hown hgr hbk hre hx
      go_wp2_with fail
      go_roundw
      case rel => exact ⟨j + 1, _, by omega, by go_num, by simp [hL], HOW.out, HCW.out, HRW.out, HGW.out, hBw⟩
      case measure => simp [intOf]; omega
    · have hjm : j = m := by omega
      subst hjm
      have hst := own8_str HO.out (by omega)
      have hqs : (bs L).size = j := by rw [bs_size, hL]
      obtain ⟨q, hq⟩ : ∃ q, q = bs L := ⟨_, rfl⟩
      rw [← hq] at hst hqs
      have HRB := Lib.hid (HB.out.grown HG.out hH)
      have HRO := Lib.hid (row92_any R n c H A hH hn 7 q j (q2 + 1) wr hm7 hqs (by omega) hm7 (by omega) HR.out HRB.out)
      clear HO HC hq hL
      go_wp2_with fail
      refine HRO.out.mono ?_
      rintro e w5 ⟨s, p5, rfl, hs5, h51, hp5, h52⟩
      have HG5 := Lib.hid (grown_trans HG.out h52)
      have HB5 := Lib.hid (HB.out.grown HG5.out hH)
      have HR5 := Lib.hid h51
      clear h51 h52 HRO hst HR HG HRB
      go_wp2_with fail
      refine (HP.out w5 p5 24 HR5.out HB5.out (by omega) (by omega) (by omega)).mono ?_
      rintro e wt ⟨⟨v, hv, rfl⟩, ht1, ht2, ht3⟩
      have HT1 := Lib.hid ht1
      have HTG := Lib.hid (grown_trans HG5.out ht2)
      have HTB := Lib.hid (HB.out.grown HTG.out hH)
      have hRt : R < wt.heap.size := ht1.lt
      clear ht1 ht2 ht3
      by_cases hv0 : v = 0
      · subst hv0
        have HOF := Lib.hid (of_any R n c H (p5 + 1) wt.heap.size 3 A [⟨#[41]⟩, ⟨#[97]⟩, ⟨#[45]⟩] (wt.alloc (.cells #[.string ⟨#[41]⟩, .string ⟨#[97]⟩, .string ⟨#[45]⟩] 9)) (HT1.out.same (Below.heap_alloc wt _ R hRt)) (HTB.out.grown (World.grownBy_alloc wt _ (some R)) hH) hH (by omega) hn rfl
          (fun j hj => by
            have hj3 : j < 3 := hj
            obtain rfl | rfl | rfl : j = 0 ∨ j = 1 ∨ j = 2 := by omega
            all_goals simp) (by omega) (by omega) (by omega))
        have HGA0 := Lib.hid (grown_trans HTG.out (World.grownBy_alloc wt (.cells #[.string ⟨#[41]⟩, .string ⟨#[97]⟩, .string ⟨#[45]⟩] 9) (some R)))
        go_wp2_with fail
        refine HOF.out.mono ?_
        rintro e wo ⟨u, hu, rfl, ho1, ho2⟩
        have hus : u.size ≤ 2 := by
          simp at hu
          rcases hu with rfl | rfl | rfl <;> decide
        have HO1 := Lib.hid ho1
        have HOG := Lib.hid (grown_trans HGA0.out ho2)
        clear hu ho1 ho2
        go_wp2_with fail
        go_ret
        exact ⟨_, _, rfl, by rw [ByteArray.size_append]; omega, HO1.out, by omega, HOG.out⟩
      · by_cases hv1 : v = 1
        · subst hv1
          have HOF := Lib.hid (of_any R n c H (p5 + 1) wt.heap.size 9 A [⟨#[]⟩, ⟨#[120]⟩, ⟨#[40, 97, 98, 41]⟩, ⟨#[40, 97, 98, 100, 41]⟩, ⟨#[40, 97, 98, 40, 99, 41, 41]⟩, ⟨#[97, 98, 99]⟩, ⟨#[45, 40, 97, 98, 99]⟩, ⟨#[40, 40, 97, 98, 99, 41, 41]⟩, ⟨#[40, 97, 97, 98, 99, 41]⟩] (wt.alloc (.cells #[.string ⟨#[]⟩, .string ⟨#[120]⟩, .string ⟨#[40, 97, 98, 41]⟩, .string ⟨#[40, 97, 98, 100, 41]⟩, .string ⟨#[40, 97, 98, 40, 99, 41, 41]⟩, .string ⟨#[97, 98, 99]⟩, .string ⟨#[45, 40, 97, 98, 99]⟩, .string ⟨#[40, 40, 97, 98, 99, 41, 41]⟩, .string ⟨#[40, 97, 97, 98, 99, 41]⟩] 9)) (HT1.out.same (Below.heap_alloc wt _ R hRt)) (HTB.out.grown (World.grownBy_alloc wt _ (some R)) hH) hH (by omega) hn rfl
            (fun j hj => by
              have hj9 : j < 9 := hj
              obtain rfl | rfl | rfl | rfl | rfl | rfl | rfl | rfl | rfl : j = 0 ∨ j = 1 ∨ j = 2 ∨ j = 3 ∨ j = 4 ∨ j = 5 ∨ j = 6 ∨ j = 7 ∨ j = 8 := by omega
              all_goals simp) (by omega) (by omega) (by omega))
          have HGA0 := Lib.hid (grown_trans HTG.out (World.grownBy_alloc wt (.cells #[.string ⟨#[]⟩, .string ⟨#[120]⟩, .string ⟨#[40, 97, 98, 41]⟩, .string ⟨#[40, 97, 98, 100, 41]⟩, .string ⟨#[40, 97, 98, 40, 99, 41, 41]⟩, .string ⟨#[97, 98, 99]⟩, .string ⟨#[45, 40, 97, 98, 99]⟩, .string ⟨#[40, 40, 97, 98, 99, 41, 41]⟩, .string ⟨#[40, 97, 97, 98, 99, 41]⟩] 9) (some R)))
          go_wp2_with fail
          refine HOF.out.mono ?_
          rintro e wo ⟨u, hu, rfl, ho1, ho2⟩
          have hus : u.size ≤ 7 := by
            simp at hu
            rcases hu with rfl | rfl | rfl | rfl | rfl | rfl | rfl | rfl | rfl <;> decide
          have HO1 := Lib.hid ho1
          have HOG := Lib.hid (grown_trans HGA0.out ho2)
          clear hu ho1 ho2
          go_wp2_with fail
          go_ret
          exact ⟨_, _, rfl, by omega, HO1.out, by omega, HOG.out⟩
        · have hv0' : ((v : Int) == 0) = false := by simp; omega
          have hv1' : ((v : Int) == 1) = false := by simp; omega
          go_wp2_with fail
          go_ret
          exact ⟨_, _, rfl, by omega, HT1.out, by omega, HTG.out⟩

/-- What a drawer of one text leaves. -/
def WordD (w : World) (e : Ending) (w' : World) : Prop := ∃ s : ByteArray, e = .returned (.string s) ∧ s.size ≤ 100 ∧ Below w.heap.size w w'
set_option maxHeartbeats 1000000 in
theorem word92_any (n c H : Nat) (A : Option Addr) (w : World) (hb : Byt w H A n) (hH : H ≤ w.heap.size) (hnc : n ≤ c) (hc : c ≤ 9223372036854775807) :
    Calls Tryd.prog 23 #[.slice A n c] w (WordD w) := by
  have HOP := Lib.hid (openS_any n c H A w hb hH hnc hc)
  clear hb
  go_enter Tryd.func23, Tryd.ntmps23
  go_wp2_with fail
  refine HOP.out.mono ?_
  rintro e w1 ⟨rfl, ⟨n', hn', h1, h2⟩, hb1⟩
  have HT := Lib.hid (text92_any w.heap.size n' c H 0 A w1 h1 h2 hH (by omega) hn')
  have HB1 := Lib.hid hb1
  have hlt := h1.lt
  clear h1 h2 hb1 HOP
  go_wp2_with fail
  refine HT.out.mono ?_
  rintro e w2 ⟨s, q, rfl, hs, h1, hq, hg⟩
  have HB2 := Lib.hid (below_grown HB1.out hg hlt)
  clear h1 hg HB1 HT
  go_wp2
  go_ret
  exact ⟨s, rfl, hs, HB2.out⟩
theorem drawTermIn_any (n c H : Nat) (A : Option Addr) (w : World) (hb : Byt w H A n) (hH : H ≤ w.heap.size) (hnc : n ≤ c) (hc : c ≤ 9223372036854775807) :
    Calls Tryd.prog 7 #[.slice A n c] w (WordD w) := by
  have HP := Lib.hid (word92_any n c H A w hb hH hnc hc)
  clear hb
  go_enter Tryd.func7, Tryd.ntmps7
  go_wp2_with fail
  refine HP.out.mono ?_
  rintro e w2 ⟨s, rfl, hs, hb⟩
  have HB := Lib.hid hb
  clear hb HP
  go_wp2
  go_ret
  exact ⟨s, rfl, hs, HB.out⟩
theorem drawTermRow_any (n c H : Nat) (A : Option Addr) (w : World) (hb : Byt w H A n) (hH : H ≤ w.heap.size) (hnc : n ≤ c) (hc : c ≤ 9223372036854775807) :
    Calls Tryd.prog 10 #[.slice A n c] w (WordD w) := by
  have HP := Lib.hid (word92_any n c H A w hb hH hnc hc)
  clear hb
  go_enter Tryd.func10, Tryd.ntmps10
  go_wp2_with fail
  refine HP.out.mono ?_
  rintro e w2 ⟨s, rfl, hs, hb⟩
  have HB := Lib.hid hb
  clear hb HP
  go_wp2
  go_ret
  exact ⟨s, rfl, hs, HB.out⟩
theorem drawTermRing_any (n c H : Nat) (A : Option Addr) (w : World) (hb : Byt w H A n) (hH : H ≤ w.heap.size) (hnc : n ≤ c) (hc : c ≤ 9223372036854775807) :
    Calls Tryd.prog 14 #[.slice A n c] w (WordD w) := by
  have HP := Lib.hid (word92_any n c H A w hb hH hnc hc)
  clear hb
  go_enter Tryd.func14, Tryd.ntmps14
  go_wp2_with fail
  refine HP.out.mono ?_
  rintro e w2 ⟨s, rfl, hs, hb⟩
  have HB := Lib.hid hb
  clear hb HP
  go_wp2
  go_ret
  exact ⟨s, rfl, hs, HB.out⟩
theorem drawTermTidy_any (n c H : Nat) (A : Option Addr) (w : World) (hb : Byt w H A n) (hH : H ≤ w.heap.size) (hnc : n ≤ c) (hc : c ≤ 9223372036854775807) :
    Calls Tryd.prog 19 #[.slice A n c] w (WordD w) := by
  have HP := Lib.hid (word92_any n c H A w hb hH hnc hc)
  clear hb
  go_enter Tryd.func19, Tryd.ntmps19
  go_wp2_with fail
  refine HP.out.mono ?_
  rintro e w2 ⟨s, rfl, hs, hb⟩
  have HB := Lib.hid hb
  clear hb HP
  go_wp2
  go_ret
  exact ⟨s, rfl, hs, HB.out⟩
end Go.Proofs.YtoifdfbhhdedbaaDoor
