/- Slices of rows at hand; the laws' comparing of two of them. -/
import Derived.Test.YtgojojoanhilnabDoorDR
import Derived.Test.YtgojojoanhilnabDoorPE
namespace Go.Proofs.YtgojojoanhilnabDoor
open Go.ChangeShapes Go.WideShapes Go.ChangeAt Go.RowKit

/-- A slice of short rows at hand: it reads as L in the world as it is. -/
def RwS (w : World) (A : Option Addr) (n c : Nat) (L : List (List Int)) : Prop := (RdS w w.heap.size A n L ∧ tot L ≤ 1048576) ∧ 0 ≤ c
def NewS (w : World) (v : Value) (L : List (List Int)) : Prop := ∃ A n c, v = .slice A n c ∧ RwS w A n c L
section
variable {w w' : World} {A : Option Addr} {n c B C : Nat} {L : List (List Int)} {v : Value}
theorem RwS.step (h : RwS w A n c L) (k : Below w.heap.size w w') : RwS w' A n c L := ⟨⟨(h.1.1.below k).more k.size, h.1.2⟩, h.2⟩
theorem RwS.rd (h : RwS w A n c L) : RdS w w.heap.size A n L := h.1.1
theorem RwS.len (h : RwS w A n c L) : L.length = n := h.1.1.len
theorem RwS.big (h : RwS w A n c L) : n ≤ 1048576 := by have := h.1.2; have := h.len; unfold tot at *; omega
theorem RwS.row (h : RwS w A n c L) (k : Nat) (hk : k < n) : (rowK L k).length ≤ 1048576 := by
  have h1 := h.1.2
  have h2 := h.len
  have h3 := sumTo_le L (k + 1) L.length (by omega)
  unfold tot at h1
  simp only [sumTo] at h3
  omega
theorem OwnS.newS (h : OwnS w B C v L) (ht : tot L ≤ 1048576) : NewS w v L := by
  obtain ⟨A, c, e⟩ := h.slice
  subst e
  exact ⟨A, _, c, rfl, ⟨h.rd.2, ht⟩, Nat.zero_le _⟩
theorem GrowS.newS (h : GrowS w B v L) (ht : tot L ≤ 1048576) : NewS w v L := by
  obtain ⟨A, c, e, _⟩ := h.slice
  subst e
  exact ⟨A, _, c, rfl, ⟨h.rd.2, ht⟩, Nat.zero_le _⟩
theorem newS_of (h : ∃ A c, v = .slice A L.length c ∧ RdS w w.heap.size A L.length L) (ht : tot L ≤ 1048576) : NewS w v L := by
  obtain ⟨A, c, e, hr⟩ := h
  exact ⟨A, _, c, e, ⟨hr, ht⟩, Nat.zero_le _⟩
end
def sameR (L M : List (List Int)) : Bool := decide (L = M)
theorem sameR_self (L : List (List Int)) : sameR L L = true := by simp [sameR]
theorem sameR_eq {L M : List (List Int)} (h : L = M) : sameR L M = true := by simp [sameR, h]
theorem rows_eq_step (xs ys : List (List Int)) (k : Nat) (hx : k < xs.length) (hy : k < ys.length) (h : xs.take k = ys.take k) (he : rowK xs k = rowK ys k) : xs.take (k + 1) = ys.take (k + 1) := by
  have e1 : rowK xs k = xs[k] := by simp [rowK, List.getD, hx]
  have e2 : rowK ys k = ys[k] := by simp [rowK, List.getD, hy]
  rw [List.take_succ_eq_append_getElem hx, List.take_succ_eq_append_getElem hy, h, ← e1, ← e2, he]

set_option maxHeartbeats 400000 in
theorem sameRows_drew (A B : Option Addr) (n m c d : Nat) (xs ys : List (List Int)) (H : Nat) (w : World) (hx : RdS w H A n xs) (hy : RdS w H B m ys) (hn : n ≤ 1048576) (h1 : ∀ k, k < n → (rowK xs k).length ≤ 1048576) (h2 : ∀ k, k < m → (rowK ys k).length ≤ 1048576) :
    Calls Tryd.prog 19 #[.slice A n c, .slice B m d] w fun e w' => e = .returned (.bool (sameR xs ys)) ∧ ∃ m, w' = w.drewN m := by
  have hlx := Lib.hid hx.len
  have hly := Lib.hid hy.len
  have H1 := Lib.hid h1
  have H2 := Lib.hid h2
  clear h1 h2
  by_cases hnm : n = m
  · obtain ⟨r, hr⟩ : ∃ r, r = sameR xs ys := ⟨_, rfl⟩
    rw [← hr]
    have HR := Lib.hid hr
    clear hr
    subst hnm
    go_enter Tryd.func19, Tryd.ntmps19
    go_wp2
    go_loopw [5] (fun i wr => ∃ k : Nat, k ≤ n ∧ i = .int .i64 k ∧ Hid (xs.take k = ys.take k) ∧ RdS wr H A n xs ∧ RdS wr H B n ys ∧ ∃ q, wr = w.drewN q) (fun i _ => n - (intOf i).toNat)
    case atStart => exact ⟨0, Nat.zero_le _, rfl, by simp [Hid], hx, hy, 0, rfl⟩
    case round =>
      obtain ⟨k, hk, rfl, htk, hrx, hry, q, hbl⟩ := hrel
      have HBL := Lib.hid hbl
      clear hbl
      by_cases hlt : k < n
      · obtain ⟨b, o, rfl, hbB, hcs⟩ := hrx.at_ (by omega)
        obtain ⟨b', o', rfl, hbB', hcs'⟩ := hry.at_ (by omega)
        obtain ⟨A1, c1, hc, r1, _, _⟩ := hcs k hlt
        obtain ⟨A2, c2, hc', r2, _, _⟩ := hcs' k hlt
        have T1 := Lib.hid (rows_eq_step xs ys k (by rw [hlx.out]; exact hlt) (by rw [hly.out]; exact hlt) htk.out)
        have T2 : Hid (rowK xs k ≠ rowK ys k → xs ≠ ys) := fun h e => h (by rw [e])
        have B1 := H1.out k hlt
        have B2 := H2.out k hlt
        have HRX := Lib.hid hrx
        have HRY := Lib.hid hry
        clear hcs hcs' hx hy hrx hry
        generalize rowK xs k = x at *
        generalize rowK ys k = y at *
        have HC := Lib.hid (fun Q => sameInts_drew A1 A2 x.length y.length c1 c2 x y H (wr.drewN Q) (r1.drewN Q) (r2.drewN Q) B1 B2)
        clear r1 r2 B1 B2
        generalize x.length = lx at *
        generalize y.length = ly at *
        by_cases hxy : x = y
        · have T3 := Lib.hid (T1.out hxy)
          rw [same_eq hxy] at HC
          clear hxy T1 T2
          go_wp2
          go_quiet ((go_at_call 9; refine Calls.quiet_of (HC.out _)))
          go_wp2
          go_roundw
          case rel => exact ⟨k + 1, by omega, by go_num, T3, HRX.out.drewN _, HRY.out.drewN _, q + nq, by rw [HBL.out, World.drewN_drewN]⟩
          case measure => simp [intOf]; omega
        · have T3 := Lib.hid (T2.out hxy)
          rw [same_ne hxy] at HC
          clear hxy T1 T2
          go_wp2
          go_quiet ((go_at_call 9; refine Calls.quiet_of (HC.out _)))
          go_wp2
          go_ret
          exact ⟨by rw [HR.out]; simp [sameR, T3.out], q + nq, by rw [HBL.out, World.drewN_drewN]⟩
      · go_wp2
        go_ret
        obtain rfl : k = n := by omega
        have e : xs = ys := by
          have := htk.out
          rwa [List.take_of_length_le (by rw [hlx.out]; omega), List.take_of_length_le (by rw [hly.out]; omega)] at this
        exact ⟨by rw [HR.out]; simp [sameR, e], q, HBL.out⟩
  · have hr : sameR xs ys = false := by
      simp only [sameR, decide_eq_false_iff_not]
      rintro rfl
      exact hnm (hlx.out.symm.trans hly.out)
    rw [hr]
    have hb : ((n : Int) != (m : Int)) = true := by simp; omega
    clear hr hnm
    go_enter Tryd.func19, Tryd.ntmps19
    go_wp2
    go_ret
    exact ⟨rfl, 0, rfl⟩
theorem sameS_any {w : World} {A B : Option Addr} {n c m d : Nat} {xs ys : List (List Int)} (h : RwS w A n c xs) (k : RwS w B m d ys) :
    Calls Tryd.prog 19 #[.slice A n c, .slice B m d] w fun e w' => e = .returned (.bool (sameR xs ys)) ∧ Below w.heap.size w w' :=
  (sameRows_drew A B n m c d xs ys w.heap.size w h.rd k.rd h.big h.row k.row).mono fun e w' ⟨e1, q, e2⟩ => ⟨e1, by subst e2; exact below_drewN (Below.refl _ _) q⟩
end Go.Proofs.YtgojojoanhilnabDoor
