/- The points of a ring linked: each one in a block of its own that leads to the next one. -/
import Derived.Test.YthpomflpnmddoaaGreatDoorDR
import Derived.Test.YthpomflpnmddoaaGreatDoorWvI
import Derived.LaidEqlPtr
namespace Go.Proofs.YthpomflpnmddoaaGreatDoor
open Go.ChangeShapes Go.WideShapes Go.ChangeAt Go.RowKit

/-- A block that is a point and a pointer. -/
def LB (w : World) (b : Nat) (x : Int) (p : Option Addr) : Prop := w.heap[b]? = some (.cells #[.int .i64 x, .pointer p] 134 (0, 0))
section
variable {w w' : World} {b : Nat} {x : Int} {p : Option Addr}
theorem LB.lt (h : LB w b x p) : b < w.heap.size := (Array.getElem?_eq_some_iff.1 h).1
theorem LB.c0 (h : LB w b x p) : w.cell? ⟨b, 0, none⟩ = some (.int .i64 x) := by rw [cell_of_row w b 0 _ _ (0, 0) h]; rfl
theorem LB.c1 (h : LB w b x p) : w.cell? ⟨b, 1, none⟩ = some (.pointer p) := by rw [cell_of_row w b 1 _ _ (0, 0) h]; rfl
theorem LB.frozen (h : LB w b x p) (i : Nat) : w.frozen? ⟨b, i, none⟩ = false := by unfold LB at h; simp [World.frozen?, h]
theorem LB.same (h : LB w b x p) (hk : w'.heap[b]? = w.heap[b]?) : LB w' b x p := hk.trans h
theorem LB.alloc (h : LB w b x p) (o : Obj) : LB (w.alloc o) b x p := h.same (Below.heap_alloc w o b h.lt)
theorem LB.below (h : LB w b x p) {D : Nat} (hb : Below D w w') (hD : b < D) : LB w' b x p := h.same (hb.block b hD)
theorem LB.set (h : LB w b x p) (q : Option Addr) : LB (w.setCell ⟨b, 1, none⟩ (.pointer q)) b x q := by
  unfold LB at h ⊢
  simp [World.setCell, Array.getElem?_modify, h]
theorem LB.far (h : LB w b x p) {a : Addr} (hb : b ≠ a.block) (u : Value) : LB (w.setCell a u) b x p := h.same (Below.heap_setCell w a u b hb)
theorem LB.new (w : World) (x : Int) (p : Option Addr) : LB (w.alloc (.cells #[.int .i64 x, .pointer p] 134)) w.heap.size x p := heap_alloc_new w _
end

/-- The first k places linked; the last of them leads nowhere. -/
structure LTo (w : World) (D : Nat) (g : Nat → Nat) (l : List Int) (k : Nat) : Prop where
  lo : ∀ i, i ≤ k → D ≤ g i ∧ g i < w.heap.size
  up : ∀ i j, i < j → j ≤ k → g i < g j
  at_ : ∀ i, i < k → LB w (g i) (l.getD i 0) (some ⟨g (i + 1), 0, none⟩)
  end_ : LB w (g k) (l.getD k 0) none
/-- A ring's points linked: the last one leads to the first one. -/
structure Lnk (w : World) (D : Nat) (g : Nat → Nat) (l : List Int) : Prop where
  lo : ∀ i, i < l.length → D ≤ g i ∧ g i < w.heap.size
  inj : ∀ i j, i < l.length → j < l.length → g i = g j → i = j
  at_ : ∀ i, i < l.length → LB w (g i) (l.getD i 0) (some ⟨g ((i + 1) % l.length), 0, none⟩)
section
variable {w w' : World} {D E : Nat} {g : Nat → Nat} {l : List Int} {k : Nat}
theorem Lnk.below (h : Lnk w D g l) (hb : Below E w w') (hE : w.heap.size ≤ E) : Lnk w' D g l :=
  ⟨fun i hi => ⟨(h.lo i hi).1, Nat.lt_of_lt_of_le (h.lo i hi).2 hb.size⟩, h.inj, fun i hi => (h.at_ i hi).below hb (Nat.lt_of_lt_of_le (h.lo i hi).2 hE)⟩
/-- What lies at or above another mark may turn. -/
theorem Lnk.under (h : Lnk w D g l) (hb : Below E w w') (hE : ∀ i, i < l.length → g i < E) : Lnk w' D g l :=
  ⟨fun i hi => ⟨(h.lo i hi).1, Nat.lt_of_lt_of_le (h.lo i hi).2 hb.size⟩, h.inj, fun i hi => (h.at_ i hi).below hb (hE i hi)⟩
theorem Lnk.drew (h : Lnk w D g l) : Lnk w.drew D g l := ⟨h.lo, h.inj, h.at_⟩
theorem Lnk.less (h : Lnk w D g l) (hE : E ≤ D) : Lnk w E g l := ⟨fun i hi => ⟨Nat.le_trans hE (h.lo i hi).1, (h.lo i hi).2⟩, h.inj, h.at_⟩
theorem LTo.first (w : World) (l : List Int) (hD : D ≤ w.heap.size) : LTo (w.alloc (.cells #[.int .i64 (l.getD 0 0), .pointer none] 134)) D (fun _ => w.heap.size) l 0 :=
  ⟨fun i _ => ⟨hD, by simp⟩, fun i j h1 h2 => by omega, fun i hi => by omega, LB.new w _ _⟩
theorem LTo.keep (h : LTo w D g l k) (hk : ∀ b, D ≤ b → b < w.heap.size → w'.heap[b]? = w.heap[b]?) (hs : w.heap.size ≤ w'.heap.size) : LTo w' D g l k :=
  ⟨fun i hi => ⟨(h.lo i hi).1, by have := (h.lo i hi).2; omega⟩, h.up, fun i hi => (h.at_ i hi).same (hk _ (h.lo i (by omega)).1 (h.lo i (by omega)).2), h.end_.same (hk _ (h.lo k (Nat.le_refl _)).1 (h.lo k (Nat.le_refl _)).2)⟩
theorem LTo.step (h : LTo w D g l k) (hD : D ≤ w.heap.size) :
    LTo ((w.alloc (.cells #[.int .i64 (l.getD (k + 1) 0), .pointer none] 134)).setCell ⟨g k, 1, none⟩ (.pointer (some ⟨w.heap.size, 0, none⟩))) D (fun i => if i = k + 1 then w.heap.size else g i) l (k + 1) := by
  have hlt := h.end_.lt
  have e1 : ∀ i, i ≤ k → (if i = k + 1 then w.heap.size else g i) = g i := fun i hi => if_neg (by omega)
  have e2 : (if k + 1 = k + 1 then w.heap.size else g (k + 1)) = w.heap.size := if_pos rfl
  refine ⟨fun i hi => ?_, fun i j hij hj => ?_, fun i hi => ?_, ?_⟩
  · rcases Nat.lt_or_ge k i with h1 | h1
    · obtain rfl : i = k + 1 := by omega
      simp only [if_pos]
      exact ⟨hD, by simp⟩
    · simp only [e1 i h1]
      have := h.lo i h1
      exact ⟨this.1, by simp; omega⟩
  · rcases Nat.lt_or_ge k j with h1 | h1
    · obtain rfl : j = k + 1 := by omega
      simp only [if_pos, e1 i (by omega)]
      exact (h.lo i (by omega)).2
    · simp only [e1 j h1, e1 i (by omega)]
      exact h.up i j hij h1
  · simp only [e1 i (by omega)]
    rcases Nat.lt_or_ge i k with h1 | h1
    · simp only [e1 (i + 1) (by omega)]
      exact ((h.at_ i h1).alloc _).far (fun e => by have := h.up i k h1 (Nat.le_refl _); simp at e; omega) _
    · obtain rfl : i = k := by omega
      simp only [if_pos]
      exact (h.end_.alloc _).set _
  · simp only [if_pos]
    exact (LB.new w _ _).far (by simp; omega) _
theorem LTo.close (h : LTo w D g l k) (hl : l.length = k + 1) : Lnk (w.setCell ⟨g k, 1, none⟩ (.pointer (some ⟨g 0, 0, none⟩))) D g l := by
  refine ⟨fun i hi => ?_, fun i j hi hj e => ?_, fun i hi => ?_⟩
  · have := h.lo i (by omega)
    exact ⟨this.1, by simpa using this.2⟩
  · rcases Nat.lt_trichotomy i j with h1 | h1 | h1
    · have := h.up i j h1 (by omega); omega
    · exact h1
    · have := h.up j i h1 (by omega); omega
  · rcases Nat.lt_or_ge i k with h1 | h1
    · rw [Nat.mod_eq_of_lt (by omega)]
      exact (h.at_ i h1).far (fun e => by have := h.up i k h1 (Nat.le_refl _); simp at e; omega) _
    · obtain rfl : i = k := by omega
      rw [hl, Nat.mod_self]
      exact h.end_.set _
/-- Whether the next one is the first one. -/
theorem Lnk.eql (h : Lnk w D g l) {i j : Nat} (hi : i < l.length) (hj : j < l.length) : (binOp .eql 54 (.pointer (some ⟨g i, 0, none⟩)) (.pointer (some ⟨g j, 0, none⟩))).run Tryz.prog w = .ok (.bool (decide (i = j))) w := by
  have hs : (Tryz.prog.info? 134).map (·.size) = some 2 := by kernel_rfl
  cases hq : Tryz.prog.info? 134 with
  | none => rw [hq] at hs; cases hs
  | some q =>
    have hz : q.size = 2 := by rw [hq] at hs; simpa using hs
    by_cases e : i = j
    · subst e
      rw [decide_eq_true rfl]
      exact run_eql_ptr_same w _ Tryz.underlying54 hq
    · have hne : (⟨g i, 0, none⟩ : Addr) ≠ ⟨g j, 0, none⟩ := fun e' => e (h.inj i j hi hj (by injection e'))
      rw [decide_eq_false e]
      exact run_eql_ptr_other w Tryz.underlying54 hq (by omega) hne (h.at_ i hi) (h.at_ j hj)
theorem Lnk.alloc (h : Lnk w D g l) (o : Obj) : Lnk (w.alloc o) D g l := h.below ((Below.refl _ _).alloc (Nat.le_refl _) o) (Nat.le_refl _)
theorem Lnk.drewN (h : Lnk w D g l) (n : Nat) : Lnk (w.drewN n) D g l := ⟨h.lo, h.inj, h.at_⟩
theorem LTo.alloc (h : LTo w D g l k) (o : Obj) : LTo (w.alloc o) D g l k := h.keep (fun b _ hb => Below.heap_alloc w o b hb) (by simp)
end

/-- A cut of an array between two places. -/
theorem slice_ringN (W : World) (b m n : Nat) (hm : m ≤ n) (hn : n ≤ 7) :
    ∃ ad : Addr, (m < 7 → ad = ⟨b, m, none⟩) ∧
    (Instr.sliceAt 35 (.pointer (some ⟨b, 0, none⟩)) (some (.int .i64 (m : Int))) (some (.int .i64 (n : Int))) none).run Tryz.prog W = .ok (.slice (some ad) (n - m) (7 - m)) W := by
  obtain ⟨i, hi, _, hs, _⟩ := info_parts int_info
  have hal : Tryz.prog.arrayLen 35 = 7 := by kernel_rfl
  have hel : Tryz.prog.elem 35 = 3 := by kernel_rfl
  have h := run_sliceAt_array_lh (P := Tryz.prog) W 35 ⟨b, 0, none⟩ (by rw [hal, hel]; exact Tryz.underlying35) .i64 .i64 (m : Int) (n : Int) (by omega) (by omega) (by rw [hal]; omega)
  have hc : Tryz.prog.cellsOf 3 = 1 := cells_int
  refine ⟨if 7 = m then ⟨b, 0, none⟩ else (⟨b, 0, none⟩ : Addr).add (m * 1), fun hlt => ?_, ?_⟩
  · rw [if_neg (by omega), Nat.mul_one, Addr.add_lit, Nat.zero_add]
  · rw [h, hel, run_sizeOf W hi, Result.andThen_ok, hal, hc]
    simp [slicedAt]

set_option maxRecDepth 10000 in
set_option maxHeartbeats 1000000 in
theorem linked_any (l : List Int) (w : World) (h2 : 2 ≤ l.length) (hl : l.length ≤ 7) (hp : ∀ x ∈ l, 0 ≤ x) :
    Calls Tryz.prog 48 #[agp l] w fun e w' => ∃ g : Nat → Nat, e = .returned (.pointer (some ⟨g 0, 0, none⟩)) ∧ Lnk w' w.heap.size g l ∧ Below w.heap.size w w' := by
  obtain ⟨a0, a1, a2, a3, a4, a5, a6, hP⟩ := seven (padR_length l hl)
  have HS := fun W => Lib.hid (size_any l W hl hp)
  have hga : ∀ k, k < l.length → ([a0, a1, a2, a3, a4, a5, a6] : List Int).getD k 0 = l.getD k 0 := fun k hk => by rw [← hP]; exact padR_get l k hk
  unfold agp at HS ⊢
  rw [hP] at HS ⊢
  simp only [ints, List.map_cons, List.map_nil] at HS ⊢
  have HS2 := Lib.hid HS
  have HGA := Lib.hid hga
  have HA0 : Hid (a0 = l.getD 0 0) := hga 0 (by omega)
  clear hga hP HS hp
  generalize hn : l.length = n at *
  have HN := Lib.hid hn
  clear hn
  have hsl := fun W => slice_ringN W w.heap.size 1 n (by omega) hl
  have HA : Hid (Arr (w.alloc (.cells #[.int .i64 a0, .int .i64 a1, .int .i64 a2, .int .i64 a3, .int .i64 a4, .int .i64 a5, .int .i64 a6] 35)) w.heap.size [a0, a1, a2, a3, a4, a5, a6]) := heap_alloc_new w _
  obtain ⟨ad, had, hsl1⟩ := hsl (((w.alloc (.cells #[.int .i64 a0, .int .i64 a1, .int .i64 a2, .int .i64 a3, .int .i64 a4, .int .i64 a5, .int .i64 a6] 35)).alloc (.cells #[.int .i64 a0, .pointer none] 134)).alloc (.cells #[.int .i64 a0, .int .i64 a1, .int .i64 a2, .int .i64 a3, .int .i64 a4, .int .i64 a5, .int .i64 a6] 35))
  obtain rfl := had (by omega)
  rw [show ((1 : Nat) : Int) = 1 from rfl] at hsl1
  have hLT : LTo (((w.alloc (.cells #[.int .i64 a0, .int .i64 a1, .int .i64 a2, .int .i64 a3, .int .i64 a4, .int .i64 a5, .int .i64 a6] 35)).alloc (.cells #[.int .i64 a0, .pointer none] 134)).alloc (.cells #[.int .i64 a0, .int .i64 a1, .int .i64 a2, .int .i64 a3, .int .i64 a4, .int .i64 a5, .int .i64 a6] 35)) (w.heap.size + 1) (fun _ => w.heap.size + 1) l 0 := by
    have := LTo.first (D := w.heap.size + 1) (w.alloc (.cells #[.int .i64 a0, .int .i64 a1, .int .i64 a2, .int .i64 a3, .int .i64 a4, .int .i64 a5, .int .i64 a6] 35)) l (by simp)
    rw [← HA0.out] at this
    simpa using this.alloc _
  have hAR : Arr (((w.alloc (.cells #[.int .i64 a0, .int .i64 a1, .int .i64 a2, .int .i64 a3, .int .i64 a4, .int .i64 a5, .int .i64 a6] 35)).alloc (.cells #[.int .i64 a0, .pointer none] 134)).alloc (.cells #[.int .i64 a0, .int .i64 a1, .int .i64 a2, .int .i64 a3, .int .i64 a4, .int .i64 a5, .int .i64 a6] 35)) w.heap.size [a0, a1, a2, a3, a4, a5, a6] := (HA.out.alloc _).alloc _
  have hBL : Below w.heap.size w (((w.alloc (.cells #[.int .i64 a0, .int .i64 a1, .int .i64 a2, .int .i64 a3, .int .i64 a4, .int .i64 a5, .int .i64 a6] 35)).alloc (.cells #[.int .i64 a0, .pointer none] 134)).alloc (.cells #[.int .i64 a0, .int .i64 a1, .int .i64 a2, .int .i64 a3, .int .i64 a4, .int .i64 a5, .int .i64 a6] 35)) := (((Below.refl _ _).alloc (Nat.le_refl _) _).alloc (by simp) _).alloc (by simp; omega) _
  have hLT := Lib.hid hLT
  have hAR := Lib.hid hAR
  have hBL := Lib.hid hBL
  clear HA HA0 had hsl
  go_enter Tryz.func48, Tryz.ntmps48
  go_wp2_with (go_at_call 14; refine ((HS2.out _).out).mono ?_; rintro e w' ⟨rfl, rfl⟩)
  generalize (((w.alloc (.cells #[.int .i64 a0, .int .i64 a1, .int .i64 a2, .int .i64 a3, .int .i64 a4, .int .i64 a5, .int .i64 a6] 35)).alloc (.cells #[.int .i64 a0, .pointer none] 134)).alloc (.cells #[.int .i64 a0, .int .i64 a1, .int .i64 a2, .int .i64 a3, .int .i64 a4, .int .i64 a5, .int .i64 a6] 35)) = W0 at *
  clear hsl1 HS2
  generalize hB : w.heap.size = B at *
  have HB := Lib.hid hB
  clear hB
  go_loopw [4, 16] (fun v i wr => ∃ k : Nat, k + 1 ≤ n ∧ i = .int .i64 k ∧ ∃ g : Nat → Nat, v = .pointer (some ⟨g k, 0, none⟩) ∧ g 0 = B + 1 ∧ Hid (LTo wr (B + 1) g l k) ∧ Hid (Arr wr B [a0, a1, a2, a3, a4, a5, a6]) ∧ Hid (Below B w wr)) (fun _ i _ => n - (intOf i).toNat)
  case atStart => exact ⟨0, by omega, rfl, fun _ => B + 1, rfl, rfl, hLT, hAR, hBL⟩
  case round =>
    obtain ⟨k, hk, rfl, g, rfl, hg0, hlt, har, hbl⟩ := hrel
    clear hLT hAR hBL
    by_cases hlk : k + 1 < n
    · have hc := har.out.cell (i := k + 1) (by simp; omega)
      have hxe := HGA.out (k + 1) hlk
      rw [hxe, Nat.add_comm k 1] at hc
      have hst := Lib.hid (hlt.out.step (by have := hlt.out.end_.lt; have := (hlt.out.lo k (Nat.le_refl _)).1; omega))
      rw [Nat.add_comm k 1] at hst
      have hgk := (hlt.out.lo k (Nat.le_refl _))
      have hBk : B < g k := by omega
      obtain ⟨x, hx⟩ : ∃ x, x = l.getD (1 + k) 0 := ⟨_, rfl⟩
      rw [← hx] at hc hst
      have hf1 := (hlt.out.end_.alloc (.cells #[.int .i64 x, .pointer none] 134)).frozen 1
      have hc1 := (hlt.out.end_.alloc (.cells #[.int .i64 x, .pointer none] 134)).c1
      have hc2 := (((hlt.out.end_.alloc (.cells #[.int .i64 x, .pointer none] 134)).set (some ⟨wr.heap.size, 0, none⟩))).c1
      have HA2 := Lib.hid ((har.out.alloc (.cells #[.int .i64 x, .pointer none] 134)).far (p := ⟨g k, 1, none⟩) (by simp; omega) (.pointer (some ⟨wr.heap.size, 0, none⟩)))
      have HB2 := Lib.hid ((hbl.out.alloc (by have := hbl.out.size; omega) (.cells #[.int .i64 x, .pointer none] 134)).setCell (p := ⟨g k, 1, none⟩) (by simp; omega) (.pointer (some ⟨wr.heap.size, 0, none⟩)))
      have hpast := World.setCell_alloc_past (w := wr) (.cells #[.int .i64 x, .pointer none] 134) (g k) 1 (.pointer (some ⟨wr.heap.size, 0, none⟩)) hgk.2
      rw [hpast] at hc2 HA2 HB2 hst
      clear har hlt hbl hx hxe hpast
      go_wp2_with fail
      go_roundw
      case rel => exact ⟨k + 1, by omega, by go_num, (fun i => if i = k + 1 then wr.heap.size else g i), by simp, by simp [hg0], by rw [Nat.add_comm k 1]; exact hst, HA2, HB2⟩
      case measure => simp [intOf]; omega
    · obtain rfl : n = k + 1 := by omega
      have hgk := (hlt.out.lo k (Nat.le_refl _))
      have hf1 := hlt.out.end_.frozen 1
      have hc1 := hlt.out.end_.c1
      have HL2 := Lib.hid (hlt.out.close HN.out)
      have HB2 := Lib.hid (hbl.out.setCell (p := ⟨g k, 1, none⟩) (by simp; omega) (.pointer (some ⟨g 0, 0, none⟩)))
      clear hlt har hbl
      rw [hg0] at HL2 HB2
      go_wp2
      go_ret
      exact ⟨g, by rw [hg0]; rfl, HL2.out.less (by have := HB.out; omega), by rw [HB.out]; exact HB2.out⟩
end Go.Proofs.YthpomflpnmddoaaGreatDoor
