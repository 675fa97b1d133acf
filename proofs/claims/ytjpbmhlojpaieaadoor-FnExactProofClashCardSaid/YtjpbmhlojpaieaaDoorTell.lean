/- Lists of all points, each one once: what they are, and how the model and the program find them. -/
import Derived.Test.YtjpbmhlojpaieaaDoorIdx
namespace Go.Proofs.YtjpbmhlojpaieaaDoor
open Go.ChangeShapes Go.WideShapes Go.ChangeAt Go.RowKit

theorem nodup_le : ∀ (n : Nat) (l : List Int), l.Nodup → (∀ x ∈ l, 0 ≤ x ∧ x < n) → l.length ≤ n
  | 0, l, _, h => by
    match l with
    | [] => simp
    | x :: _ => have := h x (by simp); omega
  | n + 1, l, hd, h => by
    by_cases hm : (n : Int) ∈ l
    · have hp := List.perm_cons_erase hm
      have hd' : ((n : Int) :: l.erase n).Nodup := hp.nodup_iff.1 hd
      rw [List.nodup_cons] at hd'
      have ih := nodup_le n (l.erase n) hd'.2 fun x hx => by
        have hx' := h x (hp.mem_iff.2 (List.mem_cons_of_mem _ hx))
        have hne : x ≠ n := fun e => hd'.1 (e ▸ hx)
        omega
      have := hp.length_eq
      simp at this
      omega
    · have ih := nodup_le n l hd fun x hx => by
        have := h x hx
        have hne : x ≠ n := fun e => hm (e ▸ hx)
        omega
      omega

theorem all_in (l : List Int) (hd : l.Nodup) (h : ∀ x ∈ l, 0 ≤ x ∧ x < l.length) : ∀ j : Nat, j < l.length → (j : Int) ∈ l := by
  intro j hj
  apply Classical.byContradiction
  intro hm
  -- move the greatest point to j: the list then has no greatest point
  have hlen : (l.map fun x => if x = (l.length - 1 : Int) then (j : Int) else x).length ≤ l.length - 1 := by
    apply nodup_le
    · rw [List.nodup_iff_pairwise_ne, List.pairwise_map]
      rw [List.nodup_iff_pairwise_ne] at hd
      refine List.Pairwise.imp_of_mem ?_ hd
      intro a b ha hb hab
      have hja : a ≠ j := fun e => hm (e ▸ ha)
      have hjb : b ≠ j := fun e => hm (e ▸ hb)
      split <;> split <;> omega
    · intro x hx
      obtain ⟨y, hy, rfl⟩ := List.mem_map.1 hx
      have := h y hy
      have hjy : y ≠ j := fun e => hm (e ▸ hy)
      split <;> omega
  simp at hlen
  omega

theorem nodup_of_all : ∀ (n : Nat) (l : List Int), l.length = n → (∀ j : Nat, j < n → (j : Int) ∈ l) → l.Nodup ∧ ∀ x ∈ l, 0 ≤ x ∧ x < n
  | 0, l, hl, _ => by
    match l, hl with
    | [], _ => simp
  | n + 1, l, hl, h => by
    have hp := List.perm_cons_erase (h n (by omega))
    have hlen := hp.length_eq
    obtain ⟨i1, i2⟩ := nodup_of_all n (l.erase n) (by simp at hlen; omega) fun j hj => by
      have := hp.mem_iff.1 (h j (by omega))
      rcases List.mem_cons.1 this with e | e
      · omega
      · exact e
    refine ⟨hp.nodup_iff.2 (List.nodup_cons.2 ⟨fun e => by have := i2 _ e; omega, i1⟩), fun x hx => ?_⟩
    rcases List.mem_cons.1 (hp.mem_iff.1 hx) with e | e
    · omega
    · have := i2 _ e; omega

/-- All points, each one once. -/
def Tell (l : List Int) : Prop := 3 ≤ l.length ∧ l.length ≤ 7 ∧ (∀ x ∈ l, 0 ≤ x ∧ x < l.length) ∧ l.Nodup
instance (l : List Int) : Decidable (Tell l) := by unfold Tell; infer_instance
def tell (l : List Int) : Bool := decide (Tell l)


theorem or_small (a b : Nat) (ha : a < 128) (hb : b < 128) : bits .or .i64 (a : Int) (b : Int) = ((a ||| b : Nat) : Int) := by
  have key : ∀ x : Fin 128, ∀ n : Nat, (BitVec.ofInt 64 ((x.val : Nat) : Int)).toNat = x.val := fun x _ => by
    have := x.isLt
    simp only [BitVec.toNat_ofInt]
    omega
  have e1 := key ⟨a, ha⟩ 0
  have e2 := key ⟨b, hb⟩ 0
  simp only at e1 e2
  have hlt : a ||| b < 128 := Nat.or_lt_two_pow (n := 7) ha hb
  change IntKind.i64.wrap ((BitVec.ofInt 64 (a : Int) ||| BitVec.ofInt 64 (b : Int)).toNat : Int) = _
  simp only [IntKind.wrap_i64, BitVec.toNat_or, e1, e2]
  omega

/-- The model's own mask, a point more; and the mask of a list. -/
def mstep (q x : Int) : Int := bits BinOp.or IntKind.i64 q (wrap64 (2 ^ min x.toNat 64))
def maskI (l : List Int) : Int := l.foldl mstep 0
def maskN (l : List Int) : Nat := l.foldl (fun s x => s ||| 2 ^ x.toNat) 0
theorem maskI_step (l : List Int) (k : Nat) (hk : k < l.length) : maskI (l.take (k + 1)) = bits BinOp.or IntKind.i64 (maskI (l.take k)) (wrap64 (2 ^ min (l.getD k 0).toNat 64)) := by
  unfold maskI
  rw [List.take_succ_eq_append_getElem hk, List.foldl_append]
  simp [List.getD, hk, mstep]

theorem pow_small (x : Int) (h0 : 0 ≤ x) (h7 : x < 7) : wrap64 (2 ^ min x.toNat 64) = ((2 ^ x.toNat : Nat) : Int) ∧ 2 ^ x.toNat < 128 := by
  obtain rfl | rfl | rfl | rfl | rfl | rfl | rfl : x = 0 ∨ x = 1 ∨ x = 2 ∨ x = 3 ∨ x = 4 ∨ x = 5 ∨ x = 6 := by omega
  all_goals exact ⟨by simp [wrap64], by decide⟩

theorem mask_eq (l : List Int) (h : ∀ x ∈ l, 0 ≤ x ∧ x < 7) : ∀ s : Nat, s < 128 → l.foldl mstep (s : Int) = ((l.foldl (fun s x => s ||| 2 ^ x.toNat) s : Nat) : Int) ∧ l.foldl (fun s x => s ||| 2 ^ x.toNat) s < 128 := by
  induction l with
  | nil => intro s hs; exact ⟨rfl, hs⟩
  | cons x l ih =>
    intro s hs
    have hx := h x (by simp)
    obtain ⟨e, hlt⟩ := pow_small x hx.1 hx.2
    have hs' : mstep (s : Int) x = ((s ||| 2 ^ x.toNat : Nat) : Int) := by unfold mstep; rw [e]; exact or_small s _ hs hlt
    rw [List.foldl_cons, List.foldl_cons, hs']
    exact ih (fun y hy => h y (by simp [hy])) _ (Nat.or_lt_two_pow (n := 7) hs hlt)

theorem mask_bit (l : List Int) (h : ∀ x ∈ l, 0 ≤ x) (j : Nat) : ∀ s : Nat, (l.foldl (fun s x => s ||| 2 ^ x.toNat) s).testBit j = (s.testBit j || decide ((j : Int) ∈ l)) := by
  induction l with
  | nil => intro s; simp
  | cons x l ih =>
    intro s
    have hx := h x (by simp)
    rw [List.foldl_cons, ih (fun y hy => h y (by simp [hy])), Nat.testBit_or, Nat.testBit_two_pow]
    by_cases e : (j : Int) = x
    · subst e; simp
    · have e' : ¬ x.toNat = j := by omega
      simp [e, e']

theorem tell_mask (l : List Int) (h3 : 3 ≤ l.length) (h7 : l.length ≤ 7) (hin : ∀ x ∈ l, 0 ≤ x ∧ x < l.length) : maskI l = (2 ^ l.length : Nat) - 1 ↔ Tell l := by
  have hm := mask_eq l (fun x hx => by have := hin x hx; omega) 0 (by omega)
  have hb := fun j => mask_bit l (fun x hx => (hin x hx).1) j 0
  have e : maskI l = (maskN l : Int) := hm.1
  rw [e]
  have hp : 1 ≤ 2 ^ l.length := Nat.one_le_two_pow
  have key : maskN l = 2 ^ l.length - 1 ↔ ∀ j : Nat, j < l.length → (j : Int) ∈ l := by
    constructor
    · intro hq j hj
      have := hb j
      rw [show (l.foldl (fun s x => s ||| 2 ^ x.toNat) 0) = maskN l from rfl, hq, Nat.testBit_two_pow_sub_one] at this
      simpa [hj] using this.symm
    · intro hall
      apply Nat.eq_of_testBit_eq
      intro j
      rw [show maskN l = (l.foldl (fun s x => s ||| 2 ^ x.toNat) 0) from rfl, hb j, Nat.testBit_two_pow_sub_one]
      simp only [Nat.zero_testBit, Bool.false_or, decide_eq_decide]
      exact ⟨fun hj => by have := hin _ hj; omega, fun hj => hall j hj⟩
  constructor
  · intro hq
    have := nodup_of_all l.length l rfl (key.1 (by omega))
    exact ⟨h3, h7, hin, this.1⟩
  · intro ht
    have := key.2 (all_in l ht.2.2.2 hin)
    omega

set_option maxHeartbeats 400000 in
theorem every_any (A : Option Addr) (n c H : Nat) (l : List Int) (w : World) (h : Rd w H A n l) (hn : n ≤ 1048576) :
    Calls Tryd.prog 83 #[.slice A n c] w fun e w' => e = .returned (.bool (tell l)) ∧ w = w' := by
  have HL := Lib.hid h.len
  obtain ⟨r, hr⟩ : ∃ r, r = tell l := ⟨_, rfl⟩
  rw [← hr]
  have HR := Lib.hid hr
  clear hr
  go_enter Tryd.func83, Tryd.ntmps83
  go_wp2_with fail
  go_loop [3, 4] (fun s i => ∃ k : Nat, k ≤ n ∧ i = .int .i64 k ∧ Hid (∀ j, j < k → 0 ≤ l.getD j 0 ∧ l.getD j 0 < n) ∧ ∃ q : Int, s = .int .i64 q ∧ Hid (q = maskI (l.take k))) (fun _ i => n - (intOf i).toNat)
  case atStart => exact ⟨0, Nat.zero_le _, rfl, fun j hj => absurd hj (by omega), 0, rfl, rfl⟩
  case round =>
    obtain ⟨k, hk, rfl, hin, q, rfl, hq⟩ := hrel
    by_cases hlt : k < n
    · obtain ⟨b, o, rfl, hbH, hcs⟩ := h.at_ (by omega)
      have hc := hcs k hlt
      clear hcs
      have T1 : Hid (0 ≤ l.getD k 0 ∧ l.getD k 0 ≤ (n : Int) - 1 → ∀ j, j < k + 1 → 0 ≤ l.getD j 0 ∧ l.getD j 0 < n) := fun hx j hj => by
        rcases Nat.lt_succ_iff_lt_or_eq.1 hj with hj | rfl
        · exact hin.out j hj
        · omega
      have T2 : Hid (¬ (0 ≤ l.getD k 0 ∧ l.getD k 0 ≤ (n : Int) - 1) → tell l = false) := fun hx => by
        simp only [tell, decide_eq_false_iff_not]
        intro ht
        have := ht.2.2.1 _ (getD_mem l k (by rw [HL.out]; exact hlt))
        rw [HL.out] at this
        omega
      have T3 : Hid (bits BinOp.or IntKind.i64 q (wrap64 (2 ^ min (l.getD k 0).toNat 64)) = maskI (l.take (k + 1))) := by
        have := maskI_step l k (by rw [HL.out]; exact hlt)
        rw [← hq.out] at this
        exact this.symm
      generalize l.getD k 0 = x at hc T1 T2 T3
      by_cases hx : 0 ≤ x ∧ x ≤ (n : Int) - 1
      · have T4 := Lib.hid (T1.out hx)
        obtain ⟨hx0, hx1⟩ := hx
        have hb : (decide (0 ≤ x) && decide (x ≤ (n : Int) - 1)) = true := by simp; omega
        clear T1 T2
        go_wp2_with (go_at_call 27; refine (in_any _ _ _ _).mono ?_; rintro e w' ⟨rfl, rfl⟩)
        go_round
        case rel => exact ⟨k + 1, by omega, by go_num, T4, _, rfl, T3⟩
        case measure => simp [intOf]; omega
      · have T4 := Lib.hid (T2.out hx)
        have hb : (decide (0 ≤ x) && decide (x ≤ (n : Int) - 1)) = false := by simp; omega
        clear T1 T2 T3 hx
        go_wp2_with (go_at_call 27; refine (in_any _ _ _ _).mono ?_; rintro e w' ⟨rfl, rfl⟩)
        go_ret
        exact ⟨by rw [HR.out, T4.out]; rfl, rfl⟩
    · obtain rfl : k = n := by omega
      have hin' : Hid (∀ x ∈ l, 0 ≤ x ∧ x < l.length) := fun x hx => by
        obtain ⟨j, hj, rfl⟩ := List.getElem_of_mem hx
        have := hin.out j (by rw [← HL.out]; exact hj)
        simp only [List.getD, List.getElem?_eq_getElem hj, Option.getD_some] at this
        rw [HL.out]
        exact this
      have hq' : Hid (q = maskI l) := by
        have := hq.out
        rw [List.take_of_length_le (by rw [HL.out]; omega)] at this
        exact this
      clear hin hq
      by_cases hr : 3 ≤ k ∧ k ≤ 7
      · obtain ⟨h3, h7⟩ := hr
        have hm := tell_mask l (by rw [HL.out]; exact h3) (by rw [HL.out]; exact h7) hin'.out
        rw [← hq'.out, HL.out] at hm
        have hr2 : Hid (r = decide (q = (2 ^ k : Nat) - 1)) := by
          rw [Hid, HR.out, tell, decide_eq_decide]
          exact hm.symm
        clear hm hq' hin' HR
        obtain rfl | rfl | rfl | rfl | rfl : k = 3 ∨ k = 4 ∨ k = 5 ∨ k = 6 ∨ k = 7 := by omega
        all_goals
          go_wp2_with (go_at_call 27; refine (in_any _ _ _ _).mono ?_; rintro e w' ⟨rfl, rfl⟩)
          go_ret
          exact ⟨by rw [hr2.out]; rfl, rfl⟩
      · have hb : (decide ((3 : Int) ≤ (k : Int)) && decide ((k : Int) ≤ 7)) = false := by simp; omega
        have hf : r = false := by
          rw [HR.out, tell, decide_eq_false_iff_not]
          intro ht
          have h1 := ht.1
          have h2 := ht.2.1
          rw [HL.out] at h1 h2
          omega
        have HF := Lib.hid hf
        clear hf hr HR hq' hin'
        go_wp2_with (go_at_call 27; refine (in_any _ _ _ _).mono ?_; rintro e w' ⟨rfl, rfl⟩)

        go_ret
        exact ⟨by rw [HF.out]; rfl, rfl⟩
end Go.Proofs.YtjpbmhlojpaieaaDoor
