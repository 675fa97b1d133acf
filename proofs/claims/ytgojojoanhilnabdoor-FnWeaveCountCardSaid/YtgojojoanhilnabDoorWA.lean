/- Several texts as one: WvM WvI WvU WvD WvP WvR WvT WvX. -/
import Derived.Test.YtgojojoanhilnabDoorMA
import Derived.Test.YtgojojoanhilnabDoorPE
import Derived.Test.YtgojojoanhilnabDoorAllR
namespace Go.Proofs.YtgojojoanhilnabDoor
open Go.ChangeShapes Go.WideShapes Go.ChangeAt Go.RowKit

/-- Whether a set has a point. -/
def hasN (s : Nat) (x : Int) : Bool := s.testBit x.toNat
def pickN (s : Nat) (l : List Int) : List Int := l.filter (hasN s)
/-- The least point of a set. -/
def lowN (s : Nat) : Nat := if s.testBit 0 then 0 else if s.testBit 1 then 1 else if s.testBit 2 then 2 else if s.testBit 3 then 3 else if s.testBit 4 then 4 else if s.testBit 5 then 5 else 6
/-- The part of a ring with the points of a set. -/
def partL (l : List Int) (s : Nat) : List Int := pickN s (cutL l (lowN s : Int))

theorem and_small (a b : Nat) (ha : a < 128) (hb : b < 128) : bits .and .i64 (a : Int) (b : Int) = ((a &&& b : Nat) : Int) := by
  have key : ∀ x : Fin 128, ∀ n : Nat, (BitVec.ofInt 64 ((x.val : Nat) : Int)).toNat = x.val := fun x _ => by
    have := x.isLt
    simp only [BitVec.toNat_ofInt]
    omega
  have e1 := key ⟨a, ha⟩ 0
  have e2 := key ⟨b, hb⟩ 0
  simp only at e1 e2
  have hlt : a &&& b < 128 := Nat.and_lt_two_pow (n := 7) a hb
  change IntKind.i64.wrap ((BitVec.ofInt 64 (a : Int) &&& BitVec.ofInt 64 (b : Int)).toNat : Int) = _
  simp only [IntKind.wrap_i64, BitVec.toNat_and, e1, e2]
  omega
theorem xor_small (a b : Nat) (ha : a < 128) (hb : b < 128) : bits .xor .i64 (a : Int) (b : Int) = ((a ^^^ b : Nat) : Int) := by
  have key : ∀ x : Fin 128, ∀ n : Nat, (BitVec.ofInt 64 ((x.val : Nat) : Int)).toNat = x.val := fun x _ => by
    have := x.isLt
    simp only [BitVec.toNat_ofInt]
    omega
  have e1 := key ⟨a, ha⟩ 0
  have e2 := key ⟨b, hb⟩ 0
  simp only at e1 e2
  have hlt : a ^^^ b < 128 := Nat.xor_lt_two_pow (n := 7) ha hb
  change IntKind.i64.wrap ((BitVec.ofInt 64 (a : Int) ^^^ BitVec.ofInt 64 (b : Int)).toNat : Int) = _
  simp only [IntKind.wrap_i64, BitVec.toNat_xor, e1, e2]
  omega
theorem and_one_bit (s : Nat) (x : Int) (hs : s < 128) (h0 : 0 ≤ x) (h7 : x < 7) : (bits .and .i64 (s : Int) (wrap64 (2 ^ min x.toNat 64)) != 0) = hasN s x := by
  obtain ⟨e, hlt⟩ := pow_small x h0 h7
  rw [e, and_small s _ hs hlt]
  have : s &&& 2 ^ x.toNat = if s.testBit x.toNat then 2 ^ x.toNat else 0 := by
    apply Nat.eq_of_testBit_eq
    intro j
    rw [Nat.testBit_and, Nat.testBit_two_pow]
    by_cases hj : x.toNat = j
    · subst hj; cases s.testBit x.toNat <;> simp
    · cases s.testBit x.toNat <;> simp [hj]
  rw [this]
  unfold hasN
  have hp := Nat.two_pow_pos x.toNat
  cases s.testBit x.toNat
  · simp
  · simp only [if_true, bne_iff_ne, ne_eq]
    omega
theorem shr_one (s : Nat) (x : Int) (hs : s < 128) : bits .and .i64 ((s : Int) / 2 ^ x.toNat) 1 = if hasN s x then 1 else 0 := by
  have e : (s : Int) / 2 ^ x.toNat = ((s / 2 ^ x.toNat : Nat) : Int) := by simp
  have hlt : s / 2 ^ x.toNat < 128 := Nat.lt_of_le_of_lt (Nat.div_le_self _ _) hs
  have := and_small (s / 2 ^ x.toNat) 1 hlt (by omega)
  rw [e]
  rw [show ((1 : Nat) : Int) = 1 from rfl] at this
  rw [this]
  unfold hasN
  rw [Nat.testBit_eq_decide_div_mod_eq, Nat.and_one_is_mod]
  have h2 := Nat.mod_two_eq_zero_or_one (s / 2 ^ x.toNat)
  rcases h2 with h2 | h2 <;> simp [h2]
theorem shr_bit (s : Nat) (x : Int) (hs : s < 128) : (bits .and .i64 ((s : Int) / 2 ^ x.toNat) 1 == 1) = hasN s x ∧ (bits .and .i64 ((s : Int) / 2 ^ x.toNat) 1 == 0) = !hasN s x := by
  rw [shr_one s x hs]
  cases hasN s x <;> simp
theorem fits (s n : Nat) (hn : n ≤ 7) (h : s < 2 ^ n) : s < 128 := Nat.lt_of_lt_of_le h (Nat.pow_le_pow_right (by omega) hn : 2 ^ n ≤ 2 ^ 7)

/-- A set's points: those of a list. -/
theorem mask_has (l : List Int) (h : ∀ x ∈ l, 0 ≤ x) (x : Int) (hx : 0 ≤ x) : hasN (maskN l) x = decide (x ∈ l) := by
  have := mask_bit l h x.toNat 0
  simp only [Nat.zero_testBit, Bool.false_or, Int.toNat_of_nonneg hx] at this
  exact this
theorem mask_lt (l : List Int) (h : ∀ x ∈ l, 0 ≤ x ∧ x < 7) : maskN l < 128 := (mask_eq l h 0 (by omega)).2
theorem pick_mask (l : List Int) (h : ∀ x ∈ l, 0 ≤ x) : pickN (maskN l) l = l := by
  unfold pickN
  rw [List.filter_eq_self]
  intro x hx
  rw [mask_has l h x (h x hx)]
  simpa using hx
theorem low_le (s : Nat) : lowN s ≤ 6 := by
  unfold lowN
  repeat' split
  all_goals omega
theorem low_has : ∀ s : Nat, s < 128 → s ≠ 0 → s.testBit (lowN s) = true ∧ ∀ j, j < lowN s → s.testBit j = false := by
  have key : ∀ s : Fin 128, s.val ≠ 0 → s.val.testBit (lowN s.val) = true ∧ ∀ j : Fin 7, j.val < lowN s.val → s.val.testBit j.val = false := by decide +kernel
  intro s hs h0
  have := key ⟨s, hs⟩ h0
  refine ⟨this.1, fun j hj => this.2 ⟨j, by have := low_le s; omega⟩ hj⟩
/-- The least point of a set of n points is one of them. -/
theorem low_lt (s n : Nat) (hn : n ≤ 7) (h : s < 2 ^ n) (h0 : s ≠ 0) : lowN s < n := by
  have := (low_has s (fits s n hn h) h0).1
  by_cases hge : n ≤ lowN s
  · have h2 : s < 2 ^ lowN s := Nat.lt_of_lt_of_le h (Nat.pow_le_pow_right (by omega) hge)
    rw [Nat.testBit_lt_two_pow h2] at this
    cases this
  · omega
theorem part_length (l : List Int) (s : Nat) : (partL l s).length ≤ l.length := by
  have := List.length_filter_le (hasN s) (cutL l (lowN s : Int))
  rw [cutL_length] at this
  exact this
theorem part_mem (l : List Int) (s : Nat) : ∀ x ∈ partL l s, x ∈ cutL l (lowN s : Int) := fun _ hx => (List.mem_filter.1 hx).1

/-- Whether a list is a part of n points. -/
def Prt (n : Int) (p : List Int) : Prop := (3 ≤ n ∧ n ≤ 6) ∧ p ≠ [] ∧ Pts n p ∧ ∀ x ∈ p, p.getD 0 0 ≤ x
instance (n : Int) (p : List Int) : Decidable (Prt n p) := by unfold Prt; infer_instance
def prt (n : Int) (p : List Int) : Bool := decide (Prt n p)
theorem prt_yes {n : Int} {p : List Int} (h : Prt n p) : prt n p = true := by simpa [prt] using h
theorem prt_no {n : Int} {p : List Int} (h : ¬ Prt n p) : prt n p = false := by simpa [prt] using h
theorem Prt.len {n : Int} {p : List Int} (h : Prt n p) : 1 ≤ p.length ∧ (p.length : Int) ≤ n ∧ p.length ≤ 6 := by
  have h0 := h.2.1
  have h1 : 0 < p.length := by cases p <;> simp_all
  have h2 := nodup_le n.toNat p h.2.2.1.2 (fun x hx => by have := h.2.2.1.1 x hx; omega)
  have := h.1
  omega
theorem Prt.bd {n : Int} {p : List Int} (h : Prt n p) : ∀ x ∈ p, 0 ≤ x ∧ x < 7 := fun x hx => by have := h.2.2.1.1 x hx; have := h.1; omega
/-- Whether a ring has a part. -/
def hasL (l p : List Int) : Bool := decide (partL l (maskN p) = p)
end Go.Proofs.YtgojojoanhilnabDoor

namespace Go.Proofs.YtgojojoanhilnabDoor
open Go.ChangeShapes Go.WideShapes Go.ChangeAt Go.RowKit

theorem fullSet_any (n : Nat) (w : World) (hn : n ≤ 7) :
    Calls Tryd.prog 62 #[.int .i64 (n : Int)] w fun e w' => e = .returned (.int .i64 ((2 ^ n - 1 : Nat) : Int)) ∧ w = w' := by
  obtain rfl | rfl | rfl | rfl | rfl | rfl | rfl | rfl : n = 0 ∨ n = 1 ∨ n = 2 ∨ n = 3 ∨ n = 4 ∨ n = 5 ∨ n = 6 ∨ n = 7 := by omega
  all_goals
    go_enter Tryd.func62, Tryd.ntmps62
    go_wp2
    go_ret
    exact ⟨rfl, rfl⟩

theorem setHas_any (s : Nat) (x : Int) (w : World) (hs : s < 128) (h0 : 0 ≤ x) (h7 : x < 7) :
    Calls Tryd.prog 76 #[.int .i64 (s : Int), .int .i64 x] w fun e w' => e = .returned (.bool (hasN s x)) ∧ w = w' := by
  have hb := and_one_bit s x hs h0 h7
  rw [show min x.toNat 64 = x.toNat by omega] at hb
  generalize hasN s x = r at *
  go_enter Tryd.func76, Tryd.ntmps76
  go_wp2
  go_ret
  exact ⟨by rw [← hb]; rfl, rfl⟩

theorem setOf_any (A : Option Addr) (n c H : Nat) (l : List Int) (w : World) (h : Rd w H A n l) (hn : n ≤ 1048576) (hp : ∀ x ∈ l, 0 ≤ x ∧ x < 7) :
    Calls Tryd.prog 59 #[.slice A n c] w fun e w' => e = .returned (.int .i64 (maskN l : Int)) ∧ w = w' := by
  have HL := Lib.hid h.len
  have HM : Hid (maskI l = (maskN l : Int)) := (mask_eq l hp 0 (by omega)).1
  rw [← HM.out]
  have HP := Lib.hid hp
  clear hp HM
  go_enter Tryd.func59, Tryd.ntmps59
  go_wp2_with fail
  go_loop [3, 8] (fun s i => ∃ k : Nat, k ≤ n ∧ i = .int .i64 k ∧ ∃ q : Int, s = .int .i64 q ∧ Hid (q = maskI (l.take k))) (fun _ i => n - (intOf i).toNat)
  case atStart => exact ⟨0, Nat.zero_le _, rfl, 0, rfl, rfl⟩
  case round =>
    obtain ⟨k, hk, rfl, q, rfl, hq⟩ := hrel
    by_cases hlt : k < n
    · obtain ⟨b, o, rfl, hbH, hcs⟩ := h.at_ (by omega)
      have hc := hcs k hlt
      clear hcs
      have hx0 := (HP.out _ (getD_mem l k (by rw [HL.out]; exact hlt))).1
      have T3 : Hid (bits BinOp.or IntKind.i64 q (wrap64 (2 ^ min (l.getD k 0).toNat 64)) = maskI (l.take (k + 1))) := by
        have := maskI_step l k (by rw [HL.out]; exact hlt)
        rw [← hq.out] at this
        exact this.symm
      generalize l.getD k 0 = x at hc T3 hx0
      go_wp2_with fail
      go_round
      case rel => exact ⟨k + 1, by omega, by go_num, _, rfl, T3⟩
      case measure => simp [intOf]; omega
    · obtain rfl : k = n := by omega
      have hq' : Hid (q = maskI l) := by
        have := hq.out
        rw [List.take_of_length_le (by rw [HL.out]; omega)] at this
        exact this
      go_wp2
      go_ret
      exact ⟨by rw [← hq'.out]; rfl, rfl⟩

/-- The least of a list's numbers. -/
def minL (l : List Int) : Int := l.foldl (fun m x => if x < m then x else m) (l.getD 0 0)
theorem minL_step (l : List Int) (k : Nat) (h1 : 1 ≤ k) (hk : k < l.length) : minL (l.take (k + 1)) = if l.getD k 0 < minL (l.take k) then l.getD k 0 else minL (l.take k) := by
  unfold minL
  have e : (l.take (k + 1)).getD 0 0 = (l.take k).getD 0 0 := by simp [List.getD, show 0 < k by omega]
  rw [e, List.take_succ_eq_append_getElem hk, List.foldl_append]
  simp [List.getD, hk]
theorem minL_one (l : List Int) (h : 0 < l.length) : minL (l.take 1) = l.getD 0 0 := by
  match l, h with
  | x :: l, _ => simp [minL]
theorem minL_le (l : List Int) : ∀ (a : Int), (∀ x ∈ l, l.foldl (fun m x => if x < m then x else m) a ≤ x) ∧ l.foldl (fun m x => if x < m then x else m) a ≤ a ∧ (l.foldl (fun m x => if x < m then x else m) a = a ∨ l.foldl (fun m x => if x < m then x else m) a ∈ l) := by
  induction l with
  | nil => intro a; exact ⟨fun x hx => by simp at hx, by simp, .inl rfl⟩
  | cons y l ih =>
    intro a
    simp only [List.foldl_cons]
    obtain ⟨h1, h2, h3⟩ := ih (if y < a then y else a)
    have h4 : (if y < a then y else a) ≤ a ∧ (if y < a then y else a) ≤ y := by split <;> omega
    refine ⟨fun x hx => ?_, by omega, ?_⟩
    · rcases List.mem_cons.1 hx with rfl | hx
      · omega
      · exact h1 x hx
    · rcases h3 with h3 | h3
      · rw [h3]
        by_cases hy : y < a
        · rw [if_pos hy]; exact .inr (by simp)
        · rw [if_neg hy]; exact .inl rfl
      · exact .inr (List.mem_cons_of_mem _ h3)
theorem minL_head (l : List Int) : (l.getD 0 0 = minL l) ↔ ∀ x ∈ l, l.getD 0 0 ≤ x := by
  obtain ⟨h1, h2, h3⟩ := minL_le l (l.getD 0 0)
  constructor
  · intro e x hx
    rw [e]
    exact h1 x hx
  · intro hh
    unfold minL
    rcases h3 with h3 | h3
    · exact h3.symm
    · have := hh _ h3
      omega

theorem min_any (A : Option Addr) (n c H : Nat) (l : List Int) (w : World) (h : Rd w H A n l) (h1 : 1 ≤ n) (hn : n ≤ 1048576) :
    Calls Tryd.prog 57 #[.slice A n c] w fun e w' => e = .returned (.int .i64 (minL l)) ∧ w = w' := by
  have HL := Lib.hid h.len
  obtain ⟨b, o, rfl, hbH, hcs⟩ := h.at_ (by omega)
  have hc0 := hcs 0 (by omega)
  rw [Nat.add_zero] at hc0
  have H1 := Lib.hid (minL_one l (by rw [HL.out]; omega))
  have HC := Lib.hid hcs
  have ST := Lib.hid (minL_step l)
  obtain ⟨r, hr⟩ : ∃ r, r = minL l := ⟨_, rfl⟩
  rw [← hr]
  have HR := Lib.hid hr
  generalize l.getD 0 0 = x0 at hc0 H1
  clear hr h hcs
  go_enter Tryd.func57, Tryd.ntmps57
  go_wp2_with fail
  go_loop [3, 4] (fun s i => ∃ k : Nat, 1 ≤ k ∧ k ≤ n ∧ i = .int .i64 k ∧ ∃ q : Int, s = .int .i64 q ∧ Hid (q = minL (l.take k))) (fun _ i => n - (intOf i).toNat)
  case atStart => exact ⟨1, Nat.le_refl _, h1, rfl, _, rfl, H1.out.symm⟩
  case round =>
    obtain ⟨k, hk1, hk, rfl, q, rfl, hq⟩ := hrel
    by_cases hlt : k < n
    · have hc := HC.out k hlt
      have T := Lib.hid (ST.out k hk1 (by rw [HL.out]; exact hlt))
      rw [← hq.out] at T
      generalize l.getD k 0 = x at hc T
      clear hc0
      go_wp2_with fail
      go_round
      case rel => exact ⟨k + 1, by omega, by omega, by go_num, _, rfl, by
        first
          | exact T.out.symm
          | (rw [Hid, T.out, Int.min_def]; split <;> split <;> omega)⟩
      case measure => simp [intOf]; omega
    · obtain rfl : k = n := by omega
      have hq' : Hid (q = minL l) := by
        have := hq.out
        rw [List.take_of_length_le (by rw [HL.out]; omega)] at this
        exact this
      go_wp2
      go_ret
      exact ⟨by rw [HR.out, ← hq'.out]; rfl, rfl⟩
end Go.Proofs.YtgojojoanhilnabDoor

namespace Go.Proofs.YtgojojoanhilnabDoor
open Go.ChangeShapes Go.WideShapes Go.ChangeAt Go.RowKit

theorem setS_any (A : Option Addr) (n c H : Nat) (l : List Int) (w : World) (h : Rd w H A n l) (hn : n ≤ 1048576) (hp : ∀ x ∈ l, 0 ≤ x ∧ x < 7) :
    Calls Tryd.prog 63 #[.slice A n c] w fun e w' => e = .returned (.int .i64 (maskN l : Int)) ∧ w = w' := by
  have HL := Lib.hid h.len
  have HM : Hid (maskI l = (maskN l : Int)) := (mask_eq l hp 0 (by omega)).1
  rw [← HM.out]
  have HP := Lib.hid hp
  clear hp HM
  go_enter Tryd.func63, Tryd.ntmps63
  go_wp2_with fail
  go_loop [3, 4] (fun s i => ∃ k : Nat, k ≤ n ∧ i = .int .i64 k ∧ ∃ q : Int, s = .int .i64 q ∧ Hid (q = maskI (l.take k))) (fun _ i => n - (intOf i).toNat)
  case atStart => exact ⟨0, Nat.zero_le _, rfl, 0, rfl, rfl⟩
  case round =>
    obtain ⟨k, hk, rfl, q, rfl, hq⟩ := hrel
    by_cases hlt : k < n
    · obtain ⟨b, o, rfl, hbH, hcs⟩ := h.at_ (by omega)
      have hc := hcs k hlt
      clear hcs
      have hx0 := (HP.out _ (getD_mem l k (by rw [HL.out]; exact hlt))).1
      have T3 : Hid (bits BinOp.or IntKind.i64 q (wrap64 (2 ^ min (l.getD k 0).toNat 64)) = maskI (l.take (k + 1))) := by
        have := maskI_step l k (by rw [HL.out]; exact hlt)
        rw [← hq.out] at this
        exact this.symm
      generalize l.getD k 0 = x at hc T3 hx0
      go_wp2_with fail
      go_round
      case rel => exact ⟨k + 1, by omega, by go_num, _, rfl, T3⟩
      case measure => simp [intOf]; omega
    · obtain rfl : k = n := by omega
      have hq' : Hid (q = maskI l) := by
        have := hq.out
        rw [List.take_of_length_le (by rw [HL.out]; omega)] at this
        exact this
      go_wp2
      go_ret
      exact ⟨by rw [← hq'.out]; rfl, rfl⟩


end Go.Proofs.YtgojojoanhilnabDoor

namespace Go.Proofs.YtgojojoanhilnabDoor
open Go.ChangeShapes Go.WideShapes Go.ChangeAt Go.RowKit

def sing (l : List Int) : List (List Int) := l.map fun x => [x]
theorem sing_flat (l : List Int) : (sing l).flatten = l := by
  induction l with
  | nil => rfl
  | cons x l ih => simp only [sing, List.map_cons, List.flatten_cons] at ih ⊢; rw [ih]; rfl
theorem sing_length (l : List Int) : (sing l).length = l.length := by simp [sing]
theorem sing_get (l : List Int) (k : Nat) (hk : k < l.length) : rowK (sing l) k = [l.getD k 0] := by simp [sing, rowK, List.getD, hk]
theorem Own.rowN {w : World} {B : Nat} {v : Value} {l : List Int} (h : Own w B v l) : RowN w B 3 1 v (sing l) := by
  refine ⟨fun x hx => ?_, ?_⟩
  · obtain ⟨y, _, rfl⟩ := List.mem_map.1 hx
    rfl
  · rw [sing_length, sing_flat]; exact h
theorem RowN.own {w : World} {B : Nat} {v : Value} {l : List Int} (h : RowN w B 3 1 v (sing l)) : Own w B v l := by
  have := h.2
  rw [sing_length, sing_flat] at this
  exact this
def sing1 (p : Int → Bool) (l : List Int) : Bool := p (l.getD 0 0)
theorem sing_filter (p : Int → Bool) (l : List Int) : ((sing l).filter fun x => !sing1 p x) = sing (l.filter fun x => !p x) := by
  induction l with
  | nil => rfl
  | cons x l ih =>
    simp only [sing, List.map_cons, List.filter_cons] at ih ⊢
    have e : sing1 p [x] = p x := rfl
    rw [e]
    cases p x <;> simp [ih]
theorem elem_i6 : Tryd.prog.elem 26 = 3 := by kernel_rfl
theorem zero_i6 (w : World) : (zeroValue 3).run Tryd.prog w = .ok (.int .i64 0) w := by kernel_rfl

set_option maxRecDepth 10000 in
set_option maxHeartbeats 1000000 in
theorem indexF_int (fid : Nat) (hE : ∀ args w, (callFunc fid args).run Tryd.prog w = .ok (.enter fid args) w) (cap : Value) (p : Int → Bool) (D E : Nat) (v : Value) (l : List Int) (w : World) (h : Own w D v l) (hD : E ≤ w.heap.size) (hM : l.length ≤ 1000)
    (hf : ∀ W, Below E w W → ∀ x ∈ l, Calls Tryd.prog fid #[.int .i64 x, cap] W fun e w' => e = .returned (.bool (p x)) ∧ Below W.heap.size W w') :
    Calls Tryd.prog 81 #[v, .func (.func fid) #[] #[cap]] w fun e w' => e = .returned (.int .i64 (idxR (sing1 p) (sing l))) ∧ Below w.heap.size w w' := by
  obtain ⟨A, c, rfl⟩ := h.slice
  obtain ⟨n, hn⟩ : ∃ n, n = l.length := ⟨_, rfl⟩
  have HN := Lib.hid hn
  have HNS : Hid (n = (sing l).length) := by rw [Hid, sing_length]; exact hn
  have hr0 : Hid (Rd w w.heap.size A n l) := by have := h.rd.2; rw [← hn] at this; exact this
  rw [← hn] at hM ⊢
  have HF := Lib.hid hf
  clear h hn hf
  go_enter Tryd.func81, Tryd.ntmps81
  go_wp2
  go_loopw [8] (fun i wr => ∃ k : Nat, k ≤ n ∧ i = .int .i64 k ∧ Hid (∀ j, j < k → sing1 p (rowK (sing l) j) = false) ∧ Hid (Rd wr w.heap.size A n l) ∧ Below w.heap.size w wr) (fun i _ => n - (intOf i).toNat)
  case atStart => exact ⟨0, Nat.zero_le _, rfl, fun j hj => absurd hj (by omega), hr0, Below.refl _ _⟩
  case round =>
    obtain ⟨k, hk, rfl, hpre, hrd, hbl⟩ := hrel
    clear hr0
    by_cases hlt : k < n
    · have hkl : k < l.length := by rw [← HN.out]; exact hlt
      have hks : k < (sing l).length := by rw [sing_length]; exact hkl
      obtain ⟨b, o, rfl, hbB, hcs⟩ := hrd.out.at_ (by omega)
      have hc := hcs k hlt
      have HC := Lib.hid (HF.out wr (hbl.mono hD) _ (getD_mem l k hkl))
      have hsk : sing1 p (rowK (sing l) k) = p (l.getD k 0) := by rw [sing_get l k hkl]; rfl
      clear hcs
      cases hp : p (l.getD k 0) with
      | false =>
        have HP : Hid (∀ j, j < k + 1 → sing1 p (rowK (sing l) j) = false) := fun j hj => by
          rcases Nat.lt_succ_iff_lt_or_eq.1 hj with hj | rfl
          · exact hpre.out j hj
          · exact hsk.trans hp
        rw [hp] at HC
        clear hp hkl hsk hks
        generalize l.getD k 0 = x at *
        go_wp2_with (refine HC.out.mono ?_; rintro e w5 ⟨rfl, hb5⟩)
        go_roundw
        case rel => exact ⟨k + 1, by omega, by go_num, HP, Lib.hid (hrd.out.below (hb5.mono hbl.size)), hbl.trans (hb5.mono hbl.size)⟩
        case measure => simp [intOf]; omega
      | true =>
        have HI := Lib.hid (idxR_at hks hpre.out (hsk.trans hp)).1
        rw [hp] at HC
        clear hp hkl hsk hks
        generalize l.getD k 0 = x at *
        go_wp2_with (refine HC.out.mono ?_; rintro e w5 ⟨rfl, hb5⟩)
        go_ret
        exact ⟨by rw [HI.out]; rfl, hbl.trans (hb5.mono hbl.size)⟩
    · obtain rfl : k = n := by omega
      have HI := Lib.hid (idxR_none (p := sing1 p) (M := sing l) (by rw [← HNS.out]; exact hpre.out))
      go_wp2
      go_ret
      exact ⟨by rw [HI.out]; rfl, hbl⟩

theorem sing_set (l : List Int) (k : Nat) (x : Int) : (sing l).set k [x] = sing (l.set k x) := by simp [sing, List.map_set]
theorem of_sing : ∀ (X : List (List Int)), (∀ l ∈ X, l.length = 1) → ∃ l, X = sing l
  | [], _ => ⟨[], rfl⟩
  | r :: X, h => by
    obtain ⟨l, rfl⟩ := of_sing X (fun a ha => h a (by simp [ha]))
    have := h r (by simp)
    match r, this with
    | [x], _ => exact ⟨x :: l, rfl⟩

set_option maxRecDepth 10000 in
set_option maxHeartbeats 2000000 in
theorem deleteF_int (fid : Nat) (hE : ∀ args w, (callFunc fid args).run Tryd.prog w = .ok (.enter fid args) w) (cap : Value) (p : Int → Bool) (D : Nat) (v : Value) (l : List Int) (w : World) (h : Own w D v l) (hD : D ≤ w.heap.size) (hM : l.length ≤ 1000)
    (hf : ∀ W, Below D w W → ∀ x ∈ l, Calls Tryd.prog fid #[.int .i64 x, cap] W fun e w' => e = .returned (.bool (p x)) ∧ Below W.heap.size W w') :
    Calls Tryd.prog 74 #[v, .func (.func fid) #[] #[cap]] w fun e w' => ∃ v', e = .returned v' ∧ Own w' D v' (l.filter fun x => !p x) ∧ Below D w w' := by
  have HI := Lib.hid (indexF_int fid hE cap p D D v l w h hD hM hf)
  have HF := Lib.hid hf
  have HH := Lib.hid h
  have hsl : (sing l).length = l.length := sing_length l
  by_cases hx : ∃ k, k < l.length ∧ (∀ j, j < k → sing1 p (rowK (sing l) j) = false) ∧ sing1 p (rowK (sing l) k) = true
  · obtain ⟨k0, hk0, hpre, hpk⟩ := hx
    have hk0s : k0 < (sing l).length := by rw [hsl]; exact hk0
    rw [(idxR_at hk0s hpre hpk).1] at HI
    obtain ⟨hs1, hs2⟩ := rowAt_start (sing1 p) (sing l) hk0s hpre hpk
    obtain ⟨g, c, e0, hBg, hgs, hnc, hcm, _, _⟩ := h.rowN.elem hk0s
    have hcm' : c ≤ 9223372036854775807 := by unfold maxLen at hcm; omega
    subst e0
    obtain ⟨i0, hi, hz0, hz1, hz2⟩ := info_parts int_info
    obtain ⟨n, hn⟩ : ∃ n, n = l.length := ⟨_, rfl⟩
    have HN := Lib.hid hn
    have HS1 := Lib.hid (show (keptTo (sing1 p) (sing l) (k0 + 1)).length = k0 by rw [hs1, List.length_take]; omega)
    have HS2 : Hid (RowAt (sing1 p) (sing l) (sing l) (k0 + 1)) := Lib.hid hs2
    rw [hsl, ← hn] at HI HH hnc ⊢
    rw [← hn] at hM hk0 hsl
    clear hn hs1 hs2 hpre hpk h hf
    go_enter Tryd.func74, Tryd.ntmps74
    have hk1 : IntKind.i64.wrap ((k0 : Int) + 1) = (k0 : Int) + 1 := by rw [IntKind.wrap_i64]; omega
    go_wp2_with (go_at_call 81; refine HI.out.mono ?_; rintro e w1 ⟨rfl, hb1⟩)
    have HH1 : Hid (RowN w1 D 3 1 (.slice (some ⟨g, 0, none⟩) n c) (sing l)) := Lib.hid (HH.out.rowN.below hb1 (fun i hi => (HH.out.rowN.lt i hi).2))
    have HB1 := Lib.hid (hb1.mono hD)
    clear hb1 HI
    go_loopw [5, 6] (fun i j wr => ∃ q : Nat, ∃ X : List Int, k0 + 1 ≤ q ∧ q ≤ n ∧ j = .int .i64 q ∧ i = .int .i64 ((keptTo (sing1 p) (sing l) q).length : Nat) ∧ Hid (RowAt (sing1 p) (sing l) (sing X) q) ∧ Hid (RowN wr D 3 1 (.slice (some ⟨g, 0, none⟩) n c) (sing X)) ∧ Hid (Below D w wr)) (fun _ j _ => n - (intOf j).toNat)
    case atStart => exact ⟨k0 + 1, l, Nat.le_refl _, by omega, by go_num, by rw [HS1.out], HS2, HH1, HB1⟩
    case round =>
      obtain ⟨q, X, hq0, hq, rfl, rfl, hat, hrd, hbl⟩ := hrel
      clear HH1 HB1 HS2 HS1
      have hXn : X.length = n := by have := hat.out.1; rw [sing_length, sing_length] at this; rw [HN.out]; exact this
      have hDw : D ≤ wr.heap.size := Nat.le_trans hD hbl.out.size
      have hgw : g < wr.heap.size := (hrd.out.lt g rfl).2
      have hlq := keptTo_len (sing1 p) (sing l) q
      have HXN := Lib.hid hXn
      by_cases hlt : q < n
      · have hqM : q < (sing l).length := by rw [hsl]; exact hlt
        have hqX : q < X.length := by rw [hXn]; exact hlt
        have hrow := rowAt_get hat.out (j := q)
        rw [sing_get X q hqX, sing_get l q (by rw [← HN.out]; exact hlt)] at hrow
        injection hrow with hrow _
        have hxm := getD_mem l q (by rw [← HN.out]; exact hlt)
        have hsk : sing1 p (rowK (sing l) q) = p (l.getD q 0) := by rw [sing_get l q (by rw [← HN.out]; exact hlt)]; rfl
        have hrk : rowK (sing l) q = [l.getD q 0] := sing_get l q (by rw [← HN.out]; exact hlt)
        have HC := Lib.hid (fun W hW => HF.out W hW _ hxm)
        have HNO := Lib.hid (fun hp => rowAt_no hat.out hqM (hsk.trans hp))
        have HYES := Lib.hid (fun hp => rowAt_yes hat.out hqM (hsk.trans hp))
        have HL1 := Lib.hid (fun hp => (keptTo_no (p := sing1 p) hqM (hsk.trans hp)))
        have HL2 := Lib.hid (fun hp => (keptTo_yes (p := sing1 p) hqM (hsk.trans hp)))
        have hld : wr.cell? ⟨g, q, none⟩ = some (.int .i64 (l.getD q 0)) := by
          obtain ⟨g', c', e0, _, _, _, _, _, hcell⟩ := hrd.out.elem (k := q) (by rw [sing_length]; exact hqX)
          injection e0 with e1 _ _
          injection e1 with e1
          injection e1 with e1
          subst e1
          have := hcell 0 (.int .i64 (l.getD q 0)) (by rw [sing_get X q hqX, hrow]; simp [ints])
          simpa using this
        rw [hrk, sing_set] at HYES
        rw [hrk] at HL2
        clear hXn hqX hrow hat hxm hsk hrk
        generalize l.getD q 0 = x at *
        obtain ⟨iq, hiq⟩ : ∃ iq, iq = (keptTo (sing1 p) (sing l) q).length := ⟨_, rfl⟩
        rw [← hiq] at hlq HYES ⊢
        have HIQ := Lib.hid hiq
        clear hiq
        cases hp : p x with
        | true =>
          have HAT := Lib.hid (HNO.out hp)
          have HLN := Lib.hid (HL1.out hp)
          rw [hp] at HC
          clear HNO HYES HL1 HL2 hp
          go_wp2_with fail
          refine (HC.out wr hbl.out).mono ?_
          rintro e w7 ⟨rfl, hb7⟩
          go_wp2
          go_roundw
          case rel =>
            (repeat apply Exists.intro)
            refine ⟨⟨q + 1, X, by omega, by omega, ?_, ?_, HAT, Lib.hid (hrd.out.below hb7 (fun i hi => (hrd.out.lt i hi).2)), Lib.hid (hbl.out.trans (hb7.mono hDw))⟩, rfl⟩
            · go_num
            · rw [HLN.out, ← HIQ.out]
          case measure => simp [intOf]; omega
        | false =>
          have HAT := Lib.hid (HYES.out hp)
          have HLN := Lib.hid (HL2.out hp)
          rw [hp] at HC
          clear HNO HYES HL1 HL2 hp
          go_wp2_with fail
          refine (HC.out wr hbl.out).mono ?_
          rintro e w7 ⟨rfl, hb7⟩
          have HR7 := Lib.hid (hrd.out.below hb7 (fun i hi => (hrd.out.lt i hi).2))
          have hown := HR7.out.2
          rw [sing_length, HXN.out, sing_flat] at hown
          have hst := hown.stored iq (.int .i64 x)
          have hlen7 : (ints X).length = n := by simp [HXN.out]
          have hcell : w7.cell? ⟨g, iq, none⟩ = some (.int .i64 (X.getD iq 0)) := by
            rw [hown.cellAt iq (by omega), ints_get _ _ (by rw [HXN.out]; omega)]
          have hfr : w7.frozen? ⟨g, iq, none⟩ = false := hown.frozenAt _
          rw [ints_set] at hst
          have HB7 := Lib.hid (hbl.out.trans (hb7.mono hDw))
          have HS := Lib.hid hst
          have h7s := hb7.size
          clear hst hown hb7 hld
          generalize X.getD iq 0 = old at hcell
          go_wp2
          go_roundw
          case rel =>
            (repeat apply Exists.intro)
            refine ⟨⟨q + 1, X.set iq x, by omega, by omega, ?_, ?_, HAT, ?_, Lib.hid (HB7.out.grown HS.out.2 (by omega) (by simp; omega))⟩, rfl⟩
            · go_num
            · rw [HLN.out, List.length_append, ← HIQ.out]; go_num
            · refine Lib.hid ⟨fun r hr => ?_, ?_⟩
              · obtain ⟨y, _, rfl⟩ := List.mem_map.1 hr
                rfl
              · rw [sing_length, sing_flat, List.length_set, HXN.out]; exact HS.out.1
          case measure => simp [intOf]; omega
      · obtain rfl : q = n := by omega
        have HTK : Hid ((sing X).take (keptTo (sing1 p) (sing l) q).length = sing (l.filter fun x => !p x)) := by
          have h1 := hat.out.2.1
          rw [Hid, h1, ← sing_filter, ← keptTo_full, hsl]
        obtain ⟨iq, hiq⟩ : ∃ iq, iq = (keptTo (sing1 p) (sing l) q).length := ⟨_, rfl⟩
        rw [← hiq] at hlq HTK ⊢
        clear hiq hat
        have hXs : (sing X).length = q := by rw [sing_length]; exact hXn
        have HXS := Lib.hid hXs
        clear hXn hXs
        have hsA := fun W => tailN 26 3 1 elem_i6 Tryd.underlying26 i0 hi cells_int W g q c iq hlq
        obtain ⟨ad, hade⟩ : ∃ ad : Addr, (if c = iq then ⟨g, 0, none⟩ else ⟨g, iq * 1, none⟩) = ad := ⟨_, rfl⟩
        rw [hade] at hsA
        have HADE := Lib.hid hade
        clear hade
        have hsB := fun W => headN 26 3 elem_i6 Tryd.underlying26 i0 hi W g q c iq (by omega)
        go_wp2_with (refine wpList_clearN rfl _ 26 3 1 rfl Tryd.underlying26 (.int .i64 0) zero_i6 rfl (by decide) (by simp [Value.cells, Value.oneCell']) g q c iq D (sing X) hrd HXS.out hlq ad HADE rfl ?_; intro w8 HR8 hg8)
        go_ret
        rw [HTK.out] at HR8
        exact ⟨.slice (some ⟨g, 0, none⟩) iq c, rfl, HR8.out.own, hbl.out.grown hg8 hDw (by simp; omega)⟩
  · have hall : ∀ j, j < (sing l).length → sing1 p (rowK (sing l) j) = false := fun j hj => by
      induction j using Nat.strongRecOn with
      | _ j ih =>
        cases hp : sing1 p (rowK (sing l) j) with
        | false => rfl
        | true => exact absurd ⟨j, by rw [← hsl]; exact hj, fun i hi => ih i hi (by omega), hp⟩ hx
    have hkeep : l.filter (fun x => !p x) = l := by
      have := keep_all hall
      rw [sing_filter] at this
      have := congrArg List.flatten this
      rwa [sing_flat, sing_flat] at this
    rw [idxR_none hall] at HI
    rw [hkeep]
    obtain ⟨A, c, rfl⟩ := h.slice
    obtain ⟨z, hz⟩ : ∃ z, z = l.length := ⟨_, rfl⟩
    rw [← hz] at HI HH ⊢
    clear hx hall HF hf h hsl hkeep hz
    go_enter Tryd.func74, Tryd.ntmps74
    go_wp2_with (go_at_call 81; refine HI.out.mono ?_; rintro e w1 ⟨rfl, hb1⟩)
    go_ret
    exact ⟨_, rfl, (HH.out.rowN.below hb1 (fun i hi => (HH.out.rowN.lt i hi).2)).own, hb1.mono hD⟩
end Go.Proofs.YtgojojoanhilnabDoor

namespace Go.Proofs.YtgojojoanhilnabDoor
open Go.ChangeShapes Go.WideShapes Go.ChangeAt Go.RowKit

theorem notHas_any (s : Nat) (x : Int) (g : Nat) (w : World) (hs : s < 128) (h0 : 0 ≤ x) (h7 : x < 7) (hc : w.cell? ⟨g, 0, none⟩ = some (.int .i64 (s : Int))) :
    Calls Tryd.prog 75 #[.int .i64 x, .pointer (some ⟨g, 0, none⟩)] w fun e w' => e = .returned (.bool (!hasN s x)) ∧ Below w.heap.size w w' := by
  have HC := Lib.hid (setHas_any s x w hs h0 h7)
  generalize hasN s x = r at *
  clear hs h0 h7
  go_enter Tryd.func75, Tryd.ntmps75
  go_wp2_with (refine HC.out.mono ?_; rintro e w5 ⟨rfl, rfl⟩)
  go_ret
  exact ⟨rfl, Below.refl _ _⟩

theorem own_cur {w : World} {B : Nat} {g n c : Nat} {l : List Int} (h : w.ownsRow B 3 1 (.slice (some ⟨g, 0, none⟩) n c) n (ints l)) : ∃ cur, w.heap[g]? = some (.cells cur 3 (0, 0)) ∧ n ≤ cur.size ∧ cur.size = c ∧ n ≤ c ∧ c ≤ maxLen ∧ B ≤ g := by
  rcases h.2 with ⟨e, _⟩ | ⟨g', cap, cur, e, hB, hg, hc, hm, hs, ht⟩
  · cases e
  · injection e with e1 e2 e3
    injection e1 with e1
    injection e1 with e1
    subst e1; subst e3
    exact ⟨cur, hg, by omega, by omega, hc, hm, hB⟩
/-- A list copied into a row of as many places. -/
theorem copy_all {ops : Array Oper} {rest : List Oper} {o : Oper} {a : Act} {w : World} {Q : Exit → Act → World → Prop} (hgd : o.guard = none) (d s : Operand)
    (ho : o.op = .call { callee := .builtin .copy, args := #[d, s], argTypes := #[26, 26] }) (B g n sCap : Nat) (zs l : List Int) (hl : l.length = n)
    (hown : Hid (w.ownsRow B 3 1 (.slice (some ⟨g, 0, none⟩) n n) n (ints zs)))
    (sp : Addr) (hd : a.eval d = .slice (some ⟨g, 0, none⟩) n n) (hs : a.eval s = .slice (some sp) n sCap) (hc : ∀ j, j < n → w.cell? (sp.add j) = some (.int .i64 (l.getD j 0)))
    (h : ∀ w', Hid (w'.ownsRow B 3 1 (.slice (some ⟨g, 0, none⟩) n n) n (ints l)) → w.grownBy w' (some g) → w'.heap.size = w.heap.size → wpList Tryd.prog ops Q rest (a.put o.dst (goInt n)) w') :
    wpList Tryd.prog ops Q (o :: rest) a w := by
  obtain ⟨cur, hg, _, hcs, _, hcm, hB⟩ := own_cur hown.out
  have hl' : (ints l).length = n := by simp [hl]
  have hh := wpList_copy_own hgd d s 26 26 ho 3 Tryd.underlying26 int_size g 0 n n sp n sCap hd hs cur 3 hg (ints l) (by rw [hl']; exact (Nat.min_self n).symm)
    (fun j v hv => by
      have hj : j < n := by
        have := (List.getElem?_eq_some_iff.1 hv).1
        omega
      rw [hc j hj, ← hv, ints_get _ _ (by omega)])
    (by rw [hl']; omega) (ints_oneCell _) (rest := rest) (Q := Q) (ops := ops) (P := Tryd.prog)
  rw [hl'] at hh
  have e : (cur.toList.take 0 ++ (ints l ++ cur.toList.drop (0 + n))) = ints l := by
    rw [List.drop_of_length_le (by rw [Array.length_toList]; omega)]; simp
  rw [e] at hh
  refine hh (h _ ?_ ?_ ?_)
  · refine ⟨by rw [hl']; omega, .inr ⟨g, n, (ints l).toArray, rfl, hB, setRow_heap w g _ _ _ _ hg, Nat.le_refl _, hcm, by simp [hl], ?_⟩⟩
    simp only [Nat.mul_one]
    exact List.take_of_length_le (by omega)
  · exact ⟨rfl, rfl, rfl, by simp, fun k _ hk => setRow_other w g k _ (fun e => hk (by simp [e]))⟩
  · simp

set_option maxRecDepth 10000 in
set_option maxHeartbeats 1000000 in
theorem partOf_any (A : Option Addr) (n c H s : Nat) (l : List Int) (w : World) (h : Rd w H A n l) (hH : H ≤ w.heap.size) (h1 : 1 ≤ n) (hn : n ≤ 7) (hp : ∀ x ∈ l, 0 ≤ x ∧ x < 7) (hs : s < 128) :
    Calls Tryd.prog 58 #[.slice A n c, .int .i64 (s : Int)] w fun e w' => ∃ v, e = .returned v ∧ RowV w' w.heap.size v (pickN s l) ∧ Below w.heap.size w w' := by
  obtain ⟨i0, hi, hz0, hz1, hz2⟩ := info_parts int_info
  have HL := Lib.hid h.len
  obtain ⟨W0, h0⟩ : ∃ W, W = w.alloc (.cells #[.int .i64 (s : Int)] 3) := ⟨_, rfl⟩
  have hbx : Hid (W0.cell? ⟨w.heap.size, 0, none⟩ = some (.int .i64 (s : Int))) := by
    rw [h0]; exact one_cell w _ _ 0 _ rfl
  have hb0 : Hid (Below w.heap.size w W0 ∧ W0.heap.size = w.heap.size + 1) := by
    rw [h0]; exact ⟨(Below.refl _ _).alloc (Nat.le_refl _) _, by simp⟩
  have hr0 := Lib.hid (h.below (hb0.out.1.mono hH))
  have HP := Lib.hid hp
  clear h hp
  go_enter Tryd.func58, Tryd.ntmps58
  go_wp2_with (at_make; rw [← h0]; refine wpList_make_full _ rfl _ _ 26 rfl W0.heap.size 3 i0 (.int .i64 0) 1 Tryd.underlying26 hi hz0 hz1 .i64 .i64 _ _ n rfl rfl rfl rfl (by rw [hz2]; omega) (by unfold maxLen; omega) (Nat.le_refl _) ?_)
  intro w1 hown hgrow
  rw [← h0] at hgrow
  clear h0
  have hb1 : Below W0.heap.size W0 w1 := (Below.refl _ _).grown hgrow (Nat.le_refl _) (by simp)
  have hbx1 : Hid (w1.cell? ⟨w.heap.size, 0, none⟩ = some (.int .i64 (s : Int))) := (hb1.cell (by have := hb0.out.2; simp; omega)).trans hbx.out
  have hr1 := Lib.hid (hr0.out.below (hb1.mono (by have := hb0.out.2; omega)))
  have HB1 := Lib.hid (hb0.out.1.trans (hb1.mono (by have := hb0.out.2; omega)))
  have ho1 : w1.ownsRow (w.heap.size + 1) 3 1 (.slice (some ⟨w.heap.size + 1, 0, none⟩) n n) n (ints (half l n 0)) := by
    have e : ints (half l n 0) = (madeCells #[Value.int IntKind.i64 0] n).toList := by
      rw [half_zero, toList_madeCells_one]
      simp [ints]
    rw [e]
    exact hown
  have hs1 := hb1.size
  rw [hb0.out.2] at hs1
  have hg0 : w.heap.size < w.heap.size + 1 := by omega
  have HO1 := Lib.hid ho1
  clear hown hgrow hbx hb0 hr0 hb1 ho1
  generalize w.heap.size + 1 = G at *
  obtain ⟨b, o, rfl, hbH, hcl⟩ := hr1.out.at_ (by omega)
  have HCL := Lib.hid hcl
  clear hcl hr1
  generalize half l n 0 = zs at *
  go_wp2_with (refine copy_all rfl (.tmp 10) (.tmp 11) rfl G G n c zs l HL.out HO1 ⟨b, o, none⟩ rfl rfl (fun j hj => by rw [Addr.add_lit]; exact HCL.out j hj) ?_; intro w2 HO2 hg2 hs2)
  have HB2 := Lib.hid (HB1.out.grown hg2 (by omega) (by simp; omega))
  have HX2 : Hid (w2.cell? ⟨w.heap.size, 0, none⟩ = some (.int .i64 (s : Int))) := (((Below.refl G w1).grown hg2 hs1 (by simp)).cell hg0).trans hbx1.out
  have hG2 : G ≤ w2.heap.size := by omega
  have HO2' : Hid (Own w2 G (.slice (some ⟨G, 0, none⟩) n n) l) := by
    have := HO2.out
    unfold Own
    rw [Hid, HL.out]; exact this
  have HF : Hid (∀ V, Below G w2 V → ∀ x ∈ l, Calls Tryd.prog 75 #[.int .i64 x, .pointer (some ⟨w.heap.size, 0, none⟩)] V fun e w' => e = .returned (.bool (!hasN s x)) ∧ Below V.heap.size V w') := fun V hV x hx =>
    notHas_any s x w.heap.size V hs (HP.out x hx).1 (HP.out x hx).2 ((hV.cell (p := ⟨w.heap.size, 0, none⟩) hg0).trans HX2.out)
  clear HO1 HB1 hbx1 HO2 hg2 HX2 HP HCL
  refine (deleteF_int 75 (enters_fn Tryd.func75 (by decide) rfl) (.pointer (some ⟨w.heap.size, 0, none⟩)) (fun x => !hasN s x) G _ l w2 HO2'.out hG2 (by rw [HL.out]; omega) HF.out).mono ?_
  rintro e w3 ⟨v3, rfl, ho3, hb3⟩
  have e3 : (l.filter fun x => !(!hasN s x)) = pickN s l := by simp [pickN]
  rw [e3] at ho3
  have hm : (pickN s l).length ≤ 7 := Nat.le_trans (List.length_filter_le _ _) (by rw [HL.out]; exact hn)
  have HB3 := Lib.hid (HB2.out.trans (hb3.mono (by omega)))
  obtain ⟨r, hr⟩ : ∃ r, r = pickN s l := ⟨_, rfl⟩
  rw [← hr] at ho3 hm
  have HRR := Lib.hid hr
  clear hr
  obtain ⟨z, hz⟩ : ∃ z, z = r.length := ⟨_, rfl⟩
  have hz7 : z ≤ 7 := by omega
  have HRW := Lib.hid ho3.rowV5
  clear hb3 HF HO2' HB2 hm
  obtain ⟨A3, c3, rfl, hzc, hcm⟩ := HRW.out.2
  have hrow : Hid (OwnG w3 w.heap.size (.slice A3 z z) r) := by
    rcases HRW.out.1 with ⟨e, rfl⟩ | ⟨g, o', c', cur, e, hB, hg, hcur⟩
    · injection e with e1 e2 e3'
      subst e1
      simp at hz
      subst hz
      exact .inl ⟨rfl, rfl⟩
    · injection e with e1 e2 e3'
      subst e1
      refine .inr ⟨g, o', z, cur, by rw [hz], by omega, hg, hcur⟩
  rw [← hz] at hzc ⊢
  have HZ := Lib.hid hz
  clear hz ho3 HRW
  go_wp2
  go_ret
  refine ⟨.slice A3 z z, rfl, ?_, HB3.out⟩
  rw [← HRR.out]
  exact ⟨hrow.out, A3, z, by rw [HZ.out], by rw [HZ.out]; exact Nat.le_refl _, by omega⟩
end Go.Proofs.YtgojojoanhilnabDoor

namespace Go.Proofs.YtgojojoanhilnabDoor
open Go.ChangeShapes Go.WideShapes Go.ChangeAt Go.RowKit

def asked (n : Int) : Bool := decide (3 ≤ n) && decide (n ≤ 6)
theorem askI_any (n : Int) (w : World) : Calls Tryd.prog 41 #[.int .i64 n] w fun e w' => e = .returned (.bool (asked n)) ∧ w = w' := by
  unfold asked
  by_cases h : 3 ≤ n
  all_goals
    go_enter Tryd.func41, Tryd.ntmps41
    go_wp2
    go_ret
    exact ⟨by simp [h]; try omega, rfl⟩
theorem flipW {P : Program} {f : FuncId} {args : Array Value} {w : World} {v : Value} (h : Calls P f args w fun e w' => e = .returned v ∧ w = w') : Calls P f args w fun e w' => e = .returned v ∧ w' = w :=
  h.mono fun _ _ ⟨a, b⟩ => ⟨a, b.symm⟩
def prtL (n : Int) (l : List Int) : List Int := if Prt n l then l else []
theorem prtL_yes {n : Int} {l : List Int} (h : Prt n l) : prtL n l = l := by rw [prtL, if_pos h]
theorem prtL_no {n : Int} {l : List Int} (h : ¬ Prt n l) : prtL n l = [] := by rw [prtL, if_neg h]

set_option maxRecDepth 10000 in
set_option maxHeartbeats 1000000 in
theorem readPart_any (A : Option Addr) (m c H : Nat) (l : List Int) (n : Int) (w : World) (h : Rd w H A m l) (hH : H ≤ w.heap.size) (hm : m ≤ 1048576) (hmc : m ≤ c) (hcm : c ≤ 9223372036854775807) :
    Calls Tryd.prog 28 #[.int .i64 n, .slice A m c] w fun e w' => ∃ v, e = .returned (.tuple #[v, .bool (prt n l)]) ∧ RowV w' w.heap.size v (prtL n l) ∧ Below w.heap.size w w' := by
  have HL := Lib.hid h.len
  have HNIL : Hid (RowV w w.heap.size (.slice none 0 0) []) := ⟨.inl ⟨rfl, rfl⟩, none, 0, rfl, Nat.le_refl _, by omega⟩
  have HA := Lib.hid (fun k => flipW (askI_any n (w.drewN k)))
  have HPT := Lib.hid (fun k => pointsIn_any A m c H l n (w.drewN k) (h.drewN k) hm hmc hcm)
  cases ha : asked n with
  | false =>
    have TF : ¬ Prt n l := fun hh => by have := hh.1; simp [asked] at ha; omega
    have T1 := Lib.hid (prt_no TF)
    have T2 := Lib.hid (prtL_no TF)
    rw [ha] at HA
    clear ha TF h
    go_enter Tryd.func28, Tryd.ntmps28
    go_wp2
    go_quiet (first | (go_at_call 41; refine Calls.quiet_of_same (HA.out _)))
    go_wp2
    go_ret2
    exact ⟨.slice none 0 0, by rw [T1.out]; rfl, by rw [T2.out]; exact HNIL.out, below_drewN (Below.refl _ _) _⟩
  | true =>
    have ha' : 3 ≤ n ∧ n ≤ 6 := by simpa [asked] using ha
    rw [ha] at HA
    clear ha
    by_cases hm0 : m = 0
    · subst hm0
      have TF : ¬ Prt n l := fun hh => hh.2.1 (List.eq_nil_of_length_eq_zero HL.out)
      have T1 := Lib.hid (prt_no TF)
      have T2 := Lib.hid (prtL_no TF)
      clear TF h
      go_enter Tryd.func28, Tryd.ntmps28
      go_wp2
      go_quiet (first | (go_at_call 41; refine Calls.quiet_of_same (HA.out _)))
      go_wp2
      go_ret2
      exact ⟨.slice none 0 0, by rw [T1.out]; rfl, by rw [T2.out]; exact HNIL.out, below_drewN (Below.refl _ _) _⟩
    · by_cases hp : Pts n l
      · rw [pts_yes hp] at HPT
        have hbd : ∀ x ∈ l, 0 ≤ x ∧ x < 7 := fun x hx => by have := hp.1 x hx; omega
        have hlen : m ≤ 6 := by
          have := nodup_le n.toNat l hp.2 (fun x hx => by have := hp.1 x hx; omega)
          rw [HL.out] at this; omega
        have HMN := Lib.hid (fun k => flipW (min_any A m c H l (w.drewN k) (h.drewN k) (by omega) hm))
        have hml := minL_head l
        have h0 : 0 < l.length := by rw [HL.out]; omega
        obtain ⟨b, o, rfl, hbH, hcs⟩ := h.at_ (by omega)
        have hc0 := hcs 0 (by omega)
        rw [Nat.add_zero] at hc0
        clear hcs
        by_cases hmin : l.getD 0 0 = minL l
        · have HP : Prt n l := ⟨ha', by intro e; rw [e] at h0; simp at h0, hp, hml.1 hmin⟩
          have T1 := Lib.hid (prt_yes HP)
          have T2 := Lib.hid (prtL_yes HP)
          have hlt := mask_lt l hbd
          have HSO := Lib.hid (fun W (hW : Rd W H (some ⟨b, o, none⟩) m l) => setOf_any _ m c H l W hW hm hbd)
          have HPO := Lib.hid (fun W (hW : Rd W H (some ⟨b, o, none⟩) m l) (hHW : H ≤ W.heap.size) => partOf_any _ m c H (maskN l) l W hW hHW (by omega) (by omega) hbd hlt)
          rw [pick_mask l (fun x hx => (hbd x hx).1)] at HPO
          have hne : (minL l != minL l) = false := by simp
          have e0 : ((m : Int) == 0) = false := by simp; omega
          rw [hmin] at hc0
          have HR := Lib.hid h
          clear h hp hbd hml hmin HP hlt h0 ha'
          generalize minL l = x0 at *
          generalize maskN l = s at *
          go_enter Tryd.func28, Tryd.ntmps28
          go_wp2
          go_quiet (first | (go_at_call 41; refine Calls.quiet_of_same (HA.out _)) | (go_at_call 56; refine Calls.quiet_of_same (HPT.out _)) | (go_at_call 57; refine Calls.quiet_of_same (HMN.out _)))
          go_wp2_with fail
          refine (HSO.out _ (HR.out.drewN _)).mono ?_
          rintro e w' ⟨rfl, rfl⟩
          go_wp2_with fail
          refine (HPO.out _ (HR.out.drewN _) hH).mono ?_
          rintro e w3 ⟨v3, rfl, hr3, hb3⟩
          have HR3 := Lib.hid hr3
          clear hr3
          go_wp2
          go_ret2
          exact ⟨v3, by rw [T1.out]; rfl, by rw [T2.out]; exact HR3.out, (below_drewN (Below.refl _ _) _).trans hb3⟩
        · have TF : ¬ Prt n l := fun hh => hmin (hml.2 hh.2.2.2)
          have T1 := Lib.hid (prt_no TF)
          have T2 := Lib.hid (prtL_no TF)
          have e0 : ((m : Int) == 0) = false := by simp; omega
          have hne : (l.getD 0 0 != minL l) = true := by simpa using hmin
          clear h hp hbd hml hmin h0 ha' TF
          generalize minL l = x1 at *
          generalize l.getD 0 0 = x0 at *
          go_enter Tryd.func28, Tryd.ntmps28
          go_wp2
          go_quiet (first | (go_at_call 41; refine Calls.quiet_of_same (HA.out _)) | (go_at_call 56; refine Calls.quiet_of_same (HPT.out _)) | (go_at_call 57; refine Calls.quiet_of_same (HMN.out _)))
          go_wp2
          go_ret2
          exact ⟨.slice none 0 0, by rw [T1.out]; rfl, by rw [T2.out]; exact HNIL.out, below_drewN (Below.refl _ _) _⟩
      · have TF : ¬ Prt n l := fun hh => hp hh.2.2.1
        have T1 := Lib.hid (prt_no TF)
        have T2 := Lib.hid (prtL_no TF)
        rw [pts_no hp] at HPT
        have e0 : ((m : Int) == 0) = false := by simp; omega
        clear TF h hp
        go_enter Tryd.func28, Tryd.ntmps28
        go_wp2
        go_quiet (first | (go_at_call 41; refine Calls.quiet_of_same (HA.out _)) | (go_at_call 56; refine Calls.quiet_of_same (HPT.out _)))
        go_wp2
        go_ret2
        exact ⟨.slice none 0 0, by rw [T1.out]; rfl, by rw [T2.out]; exact HNIL.out, below_drewN (Below.refl _ _) _⟩
end Go.Proofs.YtgojojoanhilnabDoor

namespace Go.Proofs.YtgojojoanhilnabDoor
open Go.ChangeShapes Go.WideShapes Go.ChangeAt Go.RowKit

theorem inQ (n a b : Int) (r : Bool) (h : (decide (a ≤ n) && decide (n ≤ b)) = r) (w : World) : Calls Tryd.prog 49 #[.int .i64 n, .int .i64 a, .int .i64 b] w fun e w' => e = .returned (.bool r) ∧ w' = w := by
  subst h
  exact flipW (in_any n a b w)

set_option maxRecDepth 10000 in
set_option maxHeartbeats 1000000 in
theorem l6wIn_no (A : Option Addr) (m c H : Nat) (l : List Int) (n : Int) (w : World) (h : Rd w H A m l) (hm : m ≤ 1048576) (hn : ¬ (3 ≤ n ∧ n ≤ 6)) :
    Calls Tryd.prog 48 #[.int .i64 n, .slice A m c] w fun e w' => e = .returned (.bool false) ∧ ∃ q, w' = w.drewN q := by
  have HL := Lib.hid h.len
  have HN := Lib.hid hn
  have HR := Lib.hid h
  clear h hn
  obtain ⟨N, hN⟩ : ∃ N, N = IntKind.i64.wrap (n - 1) := ⟨_, rfl⟩
  have hN' : IntKind.i64.wrap (n - 1) = N := hN.symm
  clear hN
  go_enter Tryd.func48, Tryd.ntmps48
  go_wp2
  go_loopw [5, 6] (fun s i wr => ∃ k : Nat, k ≤ m ∧ i = .int .i64 k ∧ ∃ q : Int, s = .int .i64 q ∧ ∃ d, wr = w.drewN d) (fun _ i _ => m - (intOf i).toNat)
  case atStart => exact ⟨0, Nat.zero_le _, rfl, 0, rfl, 0, rfl⟩
  case round =>
    obtain ⟨k, hk, rfl, q, rfl, d, hd⟩ := hrel
    have HRW : Hid (Rd wr H A m l) := by rw [hd]; exact HR.out.drewN d
    have HD := Lib.hid hd
    clear hd
    by_cases hlt : k < m
    · obtain ⟨b, o, rfl, hbH, hcs⟩ := HRW.out.at_ (by omega)
      have hc := hcs k hlt
      have hc0 := hcs 0 (by omega)
      rw [Nat.add_zero] at hc0
      clear hcs
      generalize l.getD k 0 = x at hc
      generalize l.getD 0 0 = x0 at hc0
      cases h1 : (decide (0 ≤ x) && decide (x ≤ N)) with
      | false =>
        have HI := Lib.hid (inQ x 0 N false h1)
        clear h1
        go_wp2
        go_quiet (first | (go_at_call 49; refine Calls.quiet_of_same (HI.out _)))
        go_wp2
        go_ret
        exact ⟨rfl, d + nq, by rw [HD.out, World.drewN_drewN]⟩
      | true =>
        have HI := Lib.hid (inQ x 0 N true h1)
        have hx0 : 0 ≤ x := by simp at h1; exact h1.1
        clear h1
        cases h2 : (bits BinOp.and IntKind.i64 (q / 2 ^ min x.toNat 64) 1 == 1) with
        | true =>
          go_wp2
          go_quiet (first | (go_at_call 49; refine Calls.quiet_of_same (HI.out _)))
          go_wp2
          go_ret
          exact ⟨rfl, d + nq, by rw [HD.out, World.drewN_drewN]⟩
        | false =>
          by_cases h3 : x < x0
          · go_wp2
            go_quiet (first | (go_at_call 49; refine Calls.quiet_of_same (HI.out _)))
            go_wp2
            go_ret
            exact ⟨rfl, d + nq, by rw [HD.out, World.drewN_drewN]⟩
          · go_wp2
            go_quiet (first | (go_at_call 49; refine Calls.quiet_of_same (HI.out _)))
            go_wp2
            go_roundw
            case rel => exact ⟨k + 1, by omega, by go_num, _, rfl, d + nq, by rw [HD.out, World.drewN_drewN]⟩
            case measure => simp [intOf]; omega
    · obtain rfl : k = m := by omega
      have HI := Lib.hid (inQ n 3 6 false (by simp; have := HN.out; omega))
      go_wp2_with (go_at_call 49; refine (HI.out _).mono ?_; rintro e w' ⟨rfl, rfl⟩)
      go_ret
      exact ⟨rfl, d, HD.out⟩

/-- What the loop has seen of a list: no point yet that tells it is no part. -/
def PrtTo (n : Int) (l : List Int) (k : Nat) : Prop := PtsTo n l k ∧ ∀ j, j < k → l.getD 0 0 ≤ l.getD j 0
theorem prtTo_step (n : Int) (l : List Int) (k : Nat) (hkl : k < l.length) (h : PrtTo n l k) :
    (0 ≤ l.getD k 0 → l.getD k 0 < n → l.getD k 0 ∉ l.take k → l.getD 0 0 ≤ l.getD k 0 → PrtTo n l (k + 1)) ∧ (¬ (0 ≤ l.getD k 0 ∧ l.getD k 0 < n ∧ l.getD k 0 ∉ l.take k ∧ l.getD 0 0 ≤ l.getD k 0) → ¬ Prt n l) := by
  have hp := pts_step n l k hkl h.1
  refine ⟨fun a b c d => ⟨hp.1 ⟨a, b, c⟩, fun j hj => ?_⟩, fun hx ht => ?_⟩
  · rcases Nat.lt_succ_iff_lt_or_eq.1 hj with hj | rfl
    · exact h.2 j hj
    · exact d
  · have hd := ht.2.2.2 _ (getD_mem l k hkl)
    exact hp.2 (fun a => hx ⟨a.1, a.2.1, a.2.2, hd⟩) ht.2.2.1
theorem prtTo_end (n : Int) (l : List Int) (h36 : 3 ≤ n ∧ n ≤ 6) (h0 : 0 < l.length) (h : PrtTo n l l.length) : Prt n l := by
  refine ⟨h36, by intro e; rw [e] at h0; simp at h0, pts_end n l h.1, fun x hx => ?_⟩
  obtain ⟨j, hj, rfl⟩ := List.getElem_of_mem hx
  have := h.2 j hj
  simpa [List.getD, hj] using this
theorem take_bd {n : Int} {l : List Int} {k : Nat} (h6 : n ≤ 6) (h : PrtTo n l k) (hk : k ≤ l.length) : ∀ x ∈ l.take k, 0 ≤ x ∧ x < 7 := fun x hx => by
  obtain ⟨j, hj, rfl⟩ := List.getElem_of_mem hx
  have hj' : j < k := by rw [List.length_take] at hj; omega
  have := h.1.1 j hj'
  rw [List.getElem_take]
  simp [List.getD, show j < l.length by omega] at this
  omega

set_option maxRecDepth 10000 in
set_option maxHeartbeats 1000000 in
theorem l6wIn_yes (A : Option Addr) (m c H : Nat) (l : List Int) (n : Int) (w : World) (h : Rd w H A m l) (hm : m ≤ 1048576) (hn : 3 ≤ n ∧ n ≤ 6) :
    Calls Tryd.prog 48 #[.int .i64 n, .slice A m c] w fun e w' => e = .returned (.bool (prt n l)) ∧ ∃ q, w' = w.drewN q := by
  have HL := Lib.hid h.len
  have HN := Lib.hid hn
  have HR := Lib.hid h
  obtain ⟨r, hr⟩ : ∃ r, r = prt n l := ⟨_, rfl⟩
  rw [← hr]
  have HRR := Lib.hid hr
  clear h hr
  have hn3 := hn.1
  have hn6 := hn.2
  clear hn
  go_enter Tryd.func48, Tryd.ntmps48
  go_wp2
  go_loopw [5, 6] (fun s i wr => ∃ k : Nat, k ≤ m ∧ i = .int .i64 k ∧ ∃ q : Int, s = .int .i64 q ∧ Hid (q = maskI (l.take k)) ∧ Hid (PrtTo n l k) ∧ ∃ d, wr = w.drewN d) (fun _ i _ => m - (intOf i).toNat)
  case atStart => exact ⟨0, Nat.zero_le _, rfl, 0, rfl, rfl, ⟨⟨fun j hj => absurd hj (by omega), by simp⟩, fun j hj => absurd hj (by omega)⟩, 0, rfl⟩
  case round =>
    obtain ⟨k, hk, rfl, q, rfl, hq, hto, d, hd⟩ := hrel
    have HRW : Hid (Rd wr H A m l) := by rw [hd]; exact HR.out.drewN d
    have HD := Lib.hid hd
    clear hd
    by_cases hlt : k < m
    · have hkl : k < l.length := by rw [HL.out]; exact hlt
      obtain ⟨b, o, rfl, hbH, hcs⟩ := HRW.out.at_ (by omega)
      have hc := hcs k hlt
      have hc0 := hcs 0 (by omega)
      rw [Nat.add_zero] at hc0
      have hst := prtTo_step n l k hkl hto.out
      have hbd := take_bd hn6 hto.out (Nat.le_of_lt hkl)
      have hmk := (mask_eq (l.take k) hbd 0 (by omega)).1
      have hmlt := mask_lt (l.take k) hbd
      have hq' : q = (maskN (l.take k) : Int) := hq.out.trans hmk
      subst hq'
      have T3 : Hid (bits BinOp.or IntKind.i64 (maskN (l.take k) : Int) (wrap64 (2 ^ min (l.getD k 0).toNat 64)) = maskI (l.take (k + 1))) := by
        have := maskI_step l k hkl
        rw [← hq.out] at this
        exact this.symm
      have hin : 0 ≤ l.getD k 0 → hasN (maskN (l.take k)) (l.getD k 0) = decide (l.getD k 0 ∈ l.take k) := mask_has _ (fun x hx => (hbd x hx).1) _
      clear hcs hq hmk hbd hto
      generalize maskN (l.take k) = s at *
      generalize l.getD k 0 = x at *
      generalize l.getD 0 0 = x0 at *
      have T1 := Lib.hid hst.1
      have T2 := Lib.hid hst.2
      have HIN := Lib.hid hin
      clear hst hin hkl
      by_cases h1 : 0 ≤ x ∧ x ≤ n - 1
      · have HI := Lib.hid (inQ x 0 (n - 1) true (by simp; omega))
        have hx0 := h1.1
        have hx6 : x < 7 := by omega
        have hmin : min x.toNat 64 = x.toNat := by omega
        have hbit := (shr_bit s x hmlt).1
        rw [HIN.out hx0] at hbit
        clear hmlt
        by_cases hmem : x ∈ l.take k
        · have TF := Lib.hid (prt_no (T2.out (fun hh => hh.2.2.1 hmem)))
          rw [decide_eq_true hmem] at hbit
          clear T1 T2 T3 hmem HIN
          go_wp2
          go_quiet (first | (go_at_call 49; refine Calls.quiet_of_same (HI.out _)))
          go_wp2
          go_ret
          exact ⟨by rw [HRR.out, TF.out]; rfl, d + nq, by rw [HD.out, World.drewN_drewN]⟩
        · rw [decide_eq_false hmem] at hbit
          by_cases h3 : x < x0
          · have TF := Lib.hid (prt_no (T2.out (fun hh => by omega)))
            clear T1 T2 T3 hmem HIN
            go_wp2
            go_quiet (first | (go_at_call 49; refine Calls.quiet_of_same (HI.out _)))
            go_wp2
            go_ret
            exact ⟨by rw [HRR.out, TF.out]; rfl, d + nq, by rw [HD.out, World.drewN_drewN]⟩
          · have TT := Lib.hid (T1.out hx0 (by omega) hmem (by omega))
            clear T1 T2 hmem HIN
            rw [hmin] at T3
            go_wp2
            go_quiet (first | (go_at_call 49; refine Calls.quiet_of_same (HI.out _)))
            go_wp2
            go_roundw
            case rel => exact ⟨k + 1, by omega, by go_num, _, rfl, T3, TT, d + nq, by rw [HD.out, World.drewN_drewN]⟩
            case measure => simp [intOf]; omega
      · have HI := Lib.hid (inQ x 0 (n - 1) false (by simp; omega))
        have TF := Lib.hid (prt_no (T2.out (fun hh => by omega)))
        clear h1 T1 T2 T3 HIN
        go_wp2
        go_quiet (first | (go_at_call 49; refine Calls.quiet_of_same (HI.out _)))
        go_wp2
        go_ret
        exact ⟨by rw [HRR.out, TF.out]; rfl, d + nq, by rw [HD.out, World.drewN_drewN]⟩
    · obtain rfl : k = m := by omega
      have HI := Lib.hid (inQ n 3 6 true (by simp; omega))
      by_cases h0 : 0 < k
      · have TT := Lib.hid (prt_yes (prtTo_end n l ⟨hn3, hn6⟩ (by rw [HL.out]; exact h0) (by rw [HL.out]; exact hto.out)))
        go_wp2_with (go_at_call 49; refine (HI.out _).mono ?_; rintro e w' ⟨rfl, rfl⟩)
        go_ret
        exact ⟨by rw [HRR.out, TT.out]; rfl, d, HD.out⟩
      · have TF := Lib.hid (prt_no (fun hh : Prt n l => hh.2.1 (List.eq_nil_of_length_eq_zero (by rw [HL.out]; omega))))
        go_wp2_with (go_at_call 49; refine (HI.out _).mono ?_; rintro e w' ⟨rfl, rfl⟩)
        go_ret
        exact ⟨by rw [HRR.out, TF.out]; rfl, d, HD.out⟩

theorem l6wIn_any (A : Option Addr) (m c H : Nat) (l : List Int) (n : Int) (w : World) (h : Rd w H A m l) (hm : m ≤ 1048576) :
    Calls Tryd.prog 48 #[.int .i64 n, .slice A m c] w fun e w' => e = .returned (.bool (prt n l)) ∧ ∃ q, w' = w.drewN q := by
  by_cases hn : 3 ≤ n ∧ n ≤ 6
  · exact l6wIn_yes A m c H l n w h hm hn
  · rw [prt_no (fun hh : Prt n l => hn hh.1)]
    exact l6wIn_no A m c H l n w h hm hn
end Go.Proofs.YtgojojoanhilnabDoor

namespace Go.Proofs.YtgojojoanhilnabDoor
open Go.ChangeShapes Go.WideShapes Go.ChangeAt Go.RowKit

end Go.Proofs.YtgojojoanhilnabDoor
