/- The laws' drawer of four points. -/
import Derived.Test.YtamnacgclhaggaaDR
import Derived.Test.YtamnacgclhaggaaFold
namespace Go.Proofs.Ytamnacgclhaggaa
open Go.ChangeShapes Go.WideShapes Go.ChangeAt Go.RowKit

/-- How far it is from x on to y, of m. -/
def ddF (y m x : Nat) : Nat := if x ≤ y then y - x else y + m - x
theorem ddF_step {y m x x1 x2 : Nat} (hx : x < m) (hy : y < m) (hne : x ≠ y) (h1 : x1 = x + 1) (h2 : x2 = x1 % m) : x2 < m ∧ ddF y m x2 < ddF y m x := by
  have hm : x2 < m := by rw [h2]; exact Nat.mod_lt _ (by omega)
  refine ⟨hm, ?_⟩
  unfold ddF
  by_cases hc : x1 = m
  · rw [hc, Nat.mod_self] at h2
    subst h2
    split <;> split <;> omega
  · rw [Nat.mod_eq_of_lt (by omega)] at h2
    split <;> split <;> omega
theorem free_pt {l : List Int} {m : Nat} (hl : l.length ≤ 3) (hm : 4 ≤ m) : ∃ y : Nat, y < m ∧ (y : Int) ∉ l := by
  by_cases h0 : ((0 : Nat) : Int) ∈ l
  · by_cases h1 : ((1 : Nat) : Int) ∈ l
    · by_cases h2 : ((2 : Nat) : Int) ∈ l
      · refine ⟨3, by omega, fun h3 => ?_⟩
        match l, hl with
        | [], _ => simp at h0
        | [a], _ => simp at h0 h1; omega
        | [a, b], _ => simp at h0 h1 h2; omega
        | [a, b, c], _ => simp at h0 h1 h2 h3; omega
      · exact ⟨2, by omega, h2⟩
    · exact ⟨1, by omega, h1⟩
  · exact ⟨0, by omega, h0⟩
theorem grown_app {w w1 w2 : World} {R : Nat} {v : Value} {o : Obj} (hg : w.grownBy w1 (some R)) (h : (w1.alloc o).grownBy w2 v.ownBlock) (hv : ∀ k, v.ownBlock = some k → w.heap.size ≤ k) : w.grownBy w2 (some R) :=
  ⟨h.os.trans hg.os, h.tape.trans hg.tape, h.output.trans hg.output, by have := h.size; have := hg.size; simp at *; omega, fun j hj hjR => (h.block j (by have := hg.size; simp; omega) (fun e => by have := hv j e.symm; omega)).trans ((Below.heap_alloc w1 o j (by have := hg.size; omega)).trans (hg.block j hj hjR))⟩
def FourD (R n c p m : Nat) (A : Option Addr) (w : World) (e : Ending) (w' : World) : Prop := ∃ v l, e = .returned v ∧ RowV w' w.heap.size v l ∧ (l.length = 4 ∧ ∀ x ∈ l, 0 ≤ x ∧ x < (m : Int)) ∧ RdAt w' R A n c (p + 5) ∧ w.grownBy w' (some R)

attribute [local go_sem ↓] apI_fold in
set_option maxRecDepth 10000 in
set_option maxHeartbeats 2000000 in
theorem four91_any (R n c H p m : Nat) (A : Option Addr) (w : World) (hR : RdAt w R A n c p) (hb : Byt w H A n) (hH : H ≤ R) (hp : p ≤ 90000) (hn : n ≤ 2000) (hm4 : 4 ≤ m) (hm : m ≤ 100) :
    Calls Try.prog 60 #[.pointer (some ⟨R, 0, none⟩), .int .i64 (m : Int)] w (FourD R n c p m A w) := by
  have HP := Lib.hid (fun V q k (h1 : RdAt V R A n c q) (h2 : Byt V H A n) (h3 : q ≤ 100000) (h4 : 1 ≤ k) (h5 : k ≤ 1000) => pick_any R n c H q k A V h1 h2 hH h3 hn h4 h5)
  have hRw := hR.lt
  have HO0 := Lib.hid (own_empty w w.heap.size (Nat.le_refl _))
  have HG0 : Hid (w.grownBy (w.alloc (.cells #[] 3)) (some R)) := World.grownBy_alloc w _ _
  have HR0 : Hid (RdAt (w.alloc (.cells #[] 3)) R A n c p) := hR.same (Below.heap_alloc w _ R hRw)
  have HB0 := Lib.hid (hb.grown HG0.out hH)
  clear hR hb
  go_enter Try.func60, Try.ntmps60
  go_wp2
  generalize w.alloc (.cells #[] 3) = W0 at *
  generalize hB : w.heap.size = B at *
  have HB := Lib.hid hB
  clear hB
  go_loopw [5, 6, 7] (fun v xx i wr => ∃ (k : Nat) (l : List Int) (q : Nat), k ≤ 4 ∧ (∃ A' c', v = .slice A' k c') ∧ Hid (l.length = k) ∧ Hid (∀ x ∈ l, 0 ≤ x ∧ x < (m : Int)) ∧ Hid (Own wr B v l) ∧ Hid (RdAt wr R A n c q) ∧ q = p + k ∧ Hid (Byt wr H A n) ∧ Hid (w.grownBy wr (some R))) (fun v _ _ _ => 4 - (match v with | .slice _ n _ => n | _ => 0))
  case atStart => exact ⟨0, [], p, by omega, ⟨_, _, rfl⟩, Lib.hid rfl, Lib.hid (fun x hx => by simp at hx), HO0, HR0, rfl, HB0, HG0⟩
  case round =>
    obtain ⟨k, l, q, hk, ⟨A', c', rfl⟩, hl, hbd, hown, hrd, rfl, hby, hgr⟩ := hrel
    clear HO0 HR0 HB0 HG0
    by_cases hlt : k < 4
    · have HPC := Lib.hid (HP.out wr (p + k) m hrd.out hby.out (by omega) (by omega) (by omega))
      go_wp2_with fail
      refine HPC.out.mono ?_
      rintro e w1 ⟨⟨x0, hx0, rfl⟩, h1, h2, h3⟩
      have HR1 := Lib.hid h1
      have HB1 := Lib.hid (hby.out.grown h2 hH)
      have HG1 := Lib.hid (grown_trans hgr.out h2)
      have HO1 : Hid (Own w1 B (.slice A' k c') l) := own_same hown.out fun j hj => h2.block j ((World.ownsRow.lt hown.out j hj).2) (fun e => by have := (World.ownsRow.lt hown.out j hj).1; have := Option.some.inj e; omega)
      obtain ⟨y, hy, hyl⟩ := free_pt (l := l) (m := m) (by rw [hl.out]; omega) hm4
      have HYL : Hid (∀ j, j < k → ∀ x : Nat, l.getD j 0 = (x : Int) → x ≠ y) := fun j hj x e e2 => hyl (by rw [← e2, ← e]; exact getD_mem l j (by rw [hl.out]; exact hj))
      have HCL : Hid (∀ j, j < k → ∃ b, A' = some ⟨b, 0, none⟩ ∧ w1.cell? ⟨b, j, none⟩ = some (.int .i64 (l.getD j 0))) := fun j hj => by
        obtain ⟨b, o, e, hbb, hcs⟩ := (HO1.out.rd).2.at_ (by omega)
        rcases HO1.out.2 with ⟨e2, _⟩ | ⟨g, cap, cur, e2, _⟩
        · injection e2 with e3
          rw [e3] at e; cases e
        · injection e2 with e3
          rw [e] at e3
          injection e3 with e3
          injection e3 with e4 e5
          subst e4; subst e5
          exact ⟨b, e, by have := hcs j hj; rwa [Nat.zero_add] at this⟩
      clear h1 h2 h3 hrd hby hgr hown hyl HPC
      go_wp2
      go_loop [6, 7] (fun xx i => ∃ x j : Nat, x < m ∧ j ≤ k ∧ xx = .int .i64 (x : Int) ∧ i = .int .i64 (j : Int)) (fun xx i => ddF y m (intOf xx).toNat * 6 + (5 - (intOf i).toNat))
      case atStart => exact ⟨x0, 0, hx0, Nat.zero_le _, rfl, rfl⟩
      case round =>
        obtain ⟨x, j, hx, hj, rfl, rfl⟩ := hrel
        by_cases hjk : j < k
        · obtain ⟨b, e, hcj⟩ := HCL.out j hjk
          subst e
          have HY1 := Lib.hid (HYL.out j hjk)
          generalize l.getD j 0 = s at *
          by_cases hsx : s = (x : Int)
          · have hbs : (s == (x : Int)) = true := by simpa using hsx
            have hxy := HY1.out x hsx
            clear hsx
            obtain ⟨x1, hx1⟩ : ∃ x1 : Nat, x1 = x + 1 := ⟨_, rfl⟩
            obtain ⟨x2, hx2⟩ : ∃ x2 : Nat, x2 = x1 % m := ⟨_, rfl⟩
            have hdd := ddF_step hx hy hxy hx1 hx2
            have hw1 : IntKind.i64.wrap ((x : Int) + 1) = (x1 : Int) := by rw [IntWalk.i64_in _ (by omega)]; omega
            have t1 : Int.tmod (x1 : Int) (m : Int) = (x2 : Int) := by rw [hx2, Int.tmod_eq_emod_of_nonneg (by omega)]; simp
            obtain ⟨hx2m, hdd⟩ := hdd
            have HDD := Lib.hid hdd
            have lx1 : x1 ≤ 200 := by omega
            clear hx1 hx2 hdd hxy
            go_wp2
            go_round
            case rel => exact ⟨x2, 0, hx2m, Nat.zero_le _, rfl, rfl⟩
            case measure => simp [intOf]; have := HDD.out; omega
          · have hbs : (s == (x : Int)) = false := by simpa using hsx
            clear hsx
            go_wp2
            go_round
            case rel => exact ⟨x, j + 1, hx, by omega, rfl, by go_num⟩
            case measure => simp [intOf]; omega
        · obtain rfl : j = k := by omega
          obtain ⟨v', w1', hrun, hown', hgrow⟩ := apI_run HO1.out (by have := HG1.out.size; rw [HB.out] at this; exact this) (by rw [hl.out]; omega) (x : Int)
          have hrun' : ∀ ty, (apI #[23, 23] ty #[_, .slice (some ⟨w1.heap.size, 0, none⟩) 1 1]).run Try.prog (w1.alloc (.cells #[.int .i64 (x : Int)] 3)) = .ok v' w1' := hrun
          clear hrun
          have HO2 := Lib.hid hown'
          have HG2 : Hid (w.grownBy w1' (some R)) := grown_app HG1.out hgrow (fun z hz => by rw [HB.out]; exact (World.ownsRow.lt HO1.out z hz).1)
          have HKR : Hid (w1'.heap[R]? = w1.heap[R]?) := (hgrow.block R (by have := HR1.out.lt; simp; omega) (fun e => by have := (World.ownsRow.lt HO1.out R e.symm).1; omega)).trans (Below.heap_alloc w1 _ R HR1.out.lt)
          have HR2 := Lib.hid (HR1.out.same HKR.out)
          have HB2 : Hid (Byt w1' H A n) := HB1.out.keep fun b o hb => World.cell?_of_block ((hgrow.block b (by have := HR1.out.lt; simp; omega) (fun e => by have := (World.ownsRow.lt HO1.out b e.symm).1; omega)).trans (Below.heap_alloc w1 _ b (by have := HR1.out.lt; omega)))
          obtain ⟨A2, c2, e2⟩ := HO2.out.slice
          rw [List.length_append, hl.out, List.length_singleton] at e2
          subst e2
          have HBD : Hid (∀ z ∈ l ++ [(x : Int)], 0 ≤ z ∧ z < (m : Int)) := fun z hz => by
            rcases List.mem_append.1 hz with hz | hz
            · exact hbd.out z hz
            · rw [List.mem_singleton.1 hz]; omega
          have HL2 : Hid ((l ++ [(x : Int)]).length = j + 1) := by rw [Hid, List.length_append, hl.out]; rfl
          clear hown' hgrow HKR HCL HYL
          go_wp2
          go_roundw
          case rel => exact ⟨j + 1, l ++ [(x : Int)], p + (j + 1), by omega, ⟨_, _, rfl⟩, HL2, HBD, HO2, HR2, rfl, HB2, HG2⟩
          case measure => simp; omega
    · obtain rfl : k = 4 := by omega
      have HPC := Lib.hid (HP.out wr (p + 4) 60 hrd.out hby.out (by omega) (by omega) (by omega))
      go_wp2_with fail
      refine HPC.out.mono ?_
      rintro e w1 ⟨⟨x0, hx0, rfl⟩, h1, h2, h3⟩
      have HR1 := Lib.hid h1
      have HG1 := Lib.hid (grown_trans hgr.out h2)
      have HO1 : Hid (Own w1 B (.slice A' 4 c') l) := own_same hown.out fun j hj => h2.block j ((World.ownsRow.lt hown.out j hj).2) (fun e => by have := (World.ownsRow.lt hown.out j hj).1; have := Option.some.inj e; omega)
      have hs1 : B ≤ w1.heap.size := by have := HG1.out.size; rw [HB.out] at this; exact this
      clear h1 h2 h3 hrd hby hgr hown HPC
      by_cases hx : x0 = 0
      · subst hx
        have hrv : RowV w1 B (.slice A' 4 c') l := HO1.out.rowV5
        obtain ⟨b, e⟩ : ∃ b, A' = some ⟨b, 0, none⟩ := by
          rcases HO1.out.2 with ⟨_, h0⟩ | ⟨g, cap, cur, e2, _⟩
          · rw [hl.out] at h0; cases h0
          · injection e2 with e3
            exact ⟨g, e3⟩
        subst e
        obtain ⟨b', o', e, hbb, hcs⟩ := hrv.1.rd.2.at_ (by omega)
        injection e with e
        injection e with e4 e5
        subst e4; subst e5
        have hc0 := hcs 0 (by omega)
        have hc3 := hcs 3 (by omega)
        obtain ⟨cur, hcur⟩ := hrv.1.kind (g := b) rfl
        have hcap : 4 ≤ c' ∧ c' ≤ 9223372036854775807 := by
          obtain ⟨Ax, cx, ex, h1, h2⟩ := hrv.2
          injection ex with _ e1 e2
          subst e2
          exact ⟨by omega, h2⟩
        have hfr := frozen_of_row w1 b 3 _ _ hcur
        have hset := hrv.1.set (k := 3) (by rw [hl.out]; omega) (l.getD 0 0)
        have h0m := hbd.out _ (getD_mem l 0 (by rw [hl.out]; omega))
        have hbB := (hrv.1.lt b rfl).1
        have HBM : Hid (∀ z ∈ l.set 3 (l.getD 0 0), 0 ≤ z ∧ z < (m : Int)) := fun z hz => by
          rcases List.mem_or_eq_of_mem_set hz with h | h
          · exact hbd.out z h
          · rw [h]; exact h0m
        have HLS : Hid ((l.set 3 (l.getD 0 0)).length = 4) := by rw [Hid, List.length_set, hl.out]
        generalize l.getD 0 0 = z0 at *
        generalize hls : l.set 3 z0 = l' at *
        have HSET := Lib.hid hset
        have HRF : Hid (RdAt (w1.setCell ⟨b, 3, none⟩ (.int .i64 z0)) R A n c (p + 4 + 1)) := HR1.out.same (Below.heap_setCell _ _ _ _ (by show R ≠ b; omega))
        have HGF : Hid (w.grownBy (w1.setCell ⟨b, 3, none⟩ (.int .i64 z0)) (some R)) := ⟨HG1.out.os, HG1.out.tape, HG1.out.output, by simp [World.setCell]; exact HG1.out.size, fun j hj hjR => (Below.heap_setCell _ _ _ j (by show j ≠ b; have := HB.out; omega)).trans (HG1.out.block j hj hjR)⟩
        clear hrv hcs hcur hset h0m hls hbd HO1 HR1 HG1
        simp only [Nat.zero_add] at hc0 hc3
        go_wp2
        go_ret
        exact ⟨_, l', rfl, ⟨by rw [HB.out]; simpa using HSET.out, some ⟨b, 0, none⟩, c', by rw [HLS.out]; rfl, by rw [HLS.out]; exact hcap.1, hcap.2⟩, ⟨HLS.out, HBM.out⟩, HRF.out, HGF.out⟩
      · have hkn : ((x0 : Int) == 0) = false := by simp; omega
        clear hx
        go_wp2
        go_ret
        exact ⟨_, l, rfl, by rw [HB.out]; exact HO1.out.rowV5, ⟨hl.out, hbd.out⟩, HR1.out, HG1.out⟩
end Go.Proofs.Ytamnacgclhaggaa
