/- The closing of a telling: the least set of threes that goes round and joins; how the program's waiting list comes to it. -/
import Derived.Test.YthefnanhikjddaaDoorPE
namespace Go.Proofs.YthefnanhikjddaaDoor

inductive Cl (L : List (List Int)) : List Int → Prop
  | base {t : List Int} : t ∈ L → Cl L t
  | turn {a b c : Int} : Cl L [a, b, c] → Cl L [b, c, a]
  | join {a b c d : Int} : Cl L [a, b, c] → Cl L [a, c, d] → b ≠ d → Cl L [a, b, d]

theorem Cl.thr {n : Int} {L : List (List Int)} (hL : ∀ t ∈ L, Thr n t) {t : List Int} (h : Cl L t) : Thr n t := by
  induction h with
  | base h => exact hL _ h
  | turn _ ih =>
    rw [thr3] at ih ⊢
    obtain ⟨h1, h2, h3, h4, h5, h6⟩ := ih
    exact ⟨h2, h3, h1, h6, Ne.symm h4, Ne.symm h5⟩
  | join _ _ hne ih1 ih2 =>
    rw [thr3] at ih1 ih2 ⊢
    exact ⟨ih1.1, ih1.2.1, ih2.2.2.1, ih1.2.2.2.1, ih2.2.2.2.2.1, hne⟩

/-- A set of threes that is closed. -/
structure Shut3 (S : List Int → Prop) : Prop where
  turn : ∀ a b c, S [a, b, c] → S [b, c, a]
  join : ∀ a b c d, S [a, b, c] → S [a, c, d] → b ≠ d → S [a, b, d]
theorem Cl.least {L : List (List Int)} {S : List Int → Prop} (hS : Shut3 S) (hL : ∀ t ∈ L, S t) {t : List Int} (h : Cl L t) : S t := by
  induction h with
  | base h => exact hL _ h
  | turn _ ih => exact hS.turn _ _ _ ih
  | join _ _ hne ih1 ih2 => exact hS.join _ _ _ _ ih1 ih2 hne

/-- What is told and what waits, in the midst of the work. -/
structure Inv3 (L K W : List (List Int)) : Prop where
  has : ∀ t ∈ L, t ∈ K ∨ t ∈ W
  sound : ∀ t, t ∈ K ∨ t ∈ W → Cl L t
  turn : ∀ a b c, [a, b, c] ∈ K → [b, c, a] ∈ K ∨ [b, c, a] ∈ W
  join : ∀ a b c d, [a, b, c] ∈ K → [a, c, d] ∈ K → b ≠ d → [a, b, d] ∈ K ∨ [a, b, d] ∈ W

theorem Inv3.start (L : List (List Int)) : Inv3 L [] L :=
  ⟨fun t h => .inr h, fun t h => .base (by simpa using h), fun a b c h => by simp at h, fun a b c d h => by simp at h⟩
theorem Inv3.done {L K : List (List Int)} (h : Inv3 L K []) (t : List Int) : t ∈ K ↔ Cl L t :=
  ⟨fun ht => h.sound t (.inl ht), fun ht => ht.least (S := fun t => t ∈ K) ⟨fun a b c ha => by simpa using h.turn a b c ha, fun a b c d h1 h2 hne => by simpa using h.join a b c d h1 h2 hne⟩ (fun t ht => by simpa using h.has t ht)⟩
theorem Inv3.skip {L K W : List (List Int)} {t : List Int} (h : Inv3 L K (W ++ [t])) (ht : t ∈ K) : Inv3 L K W := by
  have key : ∀ u, u ∈ K ∨ u ∈ W ++ [t] → u ∈ K ∨ u ∈ W := fun u hu => by
    rcases hu with hu | hu
    · exact .inl hu
    · rcases List.mem_append.1 hu with hu | hu
      · exact .inr hu
      · rw [List.mem_singleton.1 hu]; exact .inl ht
  exact ⟨fun u hu => key u (h.has u hu), fun u hu => h.sound u (hu.imp id fun x => List.mem_append.2 (.inl x)), fun a b c hu => key _ (h.turn a b c hu), fun a b c d h1 h2 hne => key _ (h.join a b c d h1 h2 hne)⟩

/-- The threes that follow from a b c and one more. -/
def joinX (K : List (List Int)) (a b c x : Int) : List (List Int) :=
  (if x ≠ b ∧ [a, c, x] ∈ K then [[a, b, x]] else []) ++ (if x ≠ c ∧ [a, x, b] ∈ K then [[a, x, c]] else [])
def joinTo (K : List (List Int)) (a b c : Int) (k : Nat) : List (List Int) := (List.range k).flatMap fun x : Nat => joinX K a b c (x : Int)
theorem joinTo_succ (K : List (List Int)) (a b c : Int) (k : Nat) : joinTo K a b c (k + 1) = joinTo K a b c k ++ joinX K a b c (k : Int) := by simp [joinTo, List.range_succ]
theorem joinX_len (K : List (List Int)) (a b c x : Int) : (joinX K a b c x).length ≤ 2 := by
  unfold joinX
  rw [List.length_append]
  have h1 : (if x ≠ b ∧ [a, c, x] ∈ K then [[a, b, x]] else []).length ≤ 1 := by split <;> simp
  have h2 : (if x ≠ c ∧ [a, x, b] ∈ K then [[a, x, c]] else []).length ≤ 1 := by split <;> simp
  omega
theorem joinTo_len (K : List (List Int)) (a b c : Int) : ∀ k, (joinTo K a b c k).length ≤ 2 * k
  | 0 => by simp [joinTo]
  | k + 1 => by rw [joinTo_succ, List.length_append]; have := joinTo_len K a b c k; have := joinX_len K a b c (k : Int); omega
theorem mem_joinTo {K : List (List Int)} {a b c : Int} {n : Nat} {u : List Int} : u ∈ joinTo K a b c n ↔ ∃ x : Nat, x < n ∧ (((x : Int) ≠ b ∧ [a, c, (x : Int)] ∈ K ∧ u = [a, b, (x : Int)]) ∨ ((x : Int) ≠ c ∧ [a, (x : Int), b] ∈ K ∧ u = [a, (x : Int), c])) := by
  simp only [joinTo, joinX, List.mem_flatMap, List.mem_range, List.mem_append]
  constructor
  · rintro ⟨x, hx, h⟩
    refine ⟨x, hx, ?_⟩
    rcases h with h | h
    · split at h
      · rename_i hc; exact .inl ⟨hc.1, hc.2, by simpa using h⟩
      · simp at h
    · split at h
      · rename_i hc; exact .inr ⟨hc.1, hc.2, by simpa using h⟩
      · simp at h
  · rintro ⟨x, hx, h⟩
    refine ⟨x, hx, ?_⟩
    rcases h with ⟨h1, h2, rfl⟩ | ⟨h1, h2, rfl⟩
    · left; rw [if_pos ⟨h1, h2⟩]; simp
    · right; rw [if_pos ⟨h1, h2⟩]; simp

theorem Inv3.push {n : Nat} {L K W : List (List Int)} {a b c : Int} (hL : ∀ t ∈ L, Thr (n : Int) t) (h : Inv3 L K (W ++ [[a, b, c]])) :
    Inv3 L ([a, b, c] :: K) (W ++ [[b, c, a]] ++ joinTo ([a, b, c] :: K) a b c n) := by
  have hcl : Cl L [a, b, c] := h.sound _ (.inr (by simp))
  have inK : ∀ u, u ∈ [a, b, c] :: K → Cl L u := fun u hu => by
    rcases List.mem_cons.1 hu with rfl | hu
    · exact hcl
    · exact h.sound u (.inl hu)
  have key : ∀ u, u ∈ K ∨ u ∈ W ++ [[a, b, c]] → u ∈ [a, b, c] :: K ∨ u ∈ W ++ [[b, c, a]] ++ joinTo ([a, b, c] :: K) a b c n := fun u hu => by
    rcases hu with hu | hu
    · exact .inl (List.mem_cons.2 (.inr hu))
    · rcases List.mem_append.1 hu with hu | hu
      · exact .inr (by simp [hu])
      · exact .inl (List.mem_cons.2 (.inl (List.mem_singleton.1 hu)))
  have small : ∀ u v x : Int, Cl L [u, v, x] → ∃ k : Nat, k < n ∧ (k : Int) = x ∧ True := fun u v x hx => by
    have := (thr3 _ _ _ _).1 (hx.thr hL)
    exact ⟨x.toNat, by omega, by omega, trivial⟩
  have smallm : ∀ u v x : Int, Cl L [u, x, v] → ∃ k : Nat, k < n ∧ (k : Int) = x ∧ True := fun u v x hx => by
    have := (thr3 _ _ _ _).1 (hx.thr hL)
    exact ⟨x.toNat, by omega, by omega, trivial⟩
  refine ⟨fun u hu => key u (h.has u hu), fun u hu => ?_, fun x y z hu => ?_, fun x y z d h1 h2 hne => ?_⟩
  · rcases hu with hu | hu
    · exact inK u hu
    · rcases List.mem_append.1 hu with hu | hu
      · rcases List.mem_append.1 hu with hu | hu
        · exact h.sound u (.inr (by simp [hu]))
        · rw [List.mem_singleton.1 hu]; exact hcl.turn
      · obtain ⟨x, hx, hh | hh⟩ := mem_joinTo.1 hu
        · obtain ⟨h1, h2, rfl⟩ := hh
          exact hcl.join (inK _ h2) (Ne.symm h1)
        · obtain ⟨h1, h2, rfl⟩ := hh
          exact (inK _ h2).join hcl h1
  · rcases List.mem_cons.1 hu with e | hu
    · injection e with e1 e2
      injection e2 with e2 e3
      injection e3 with e3 _
      subst e1; subst e2; subst e3
      exact .inr (by simp)
    · exact key _ (h.turn x y z hu)
  · rcases List.mem_cons.1 h1 with e | k1
    · injection e with e1 e2
      injection e2 with e2 e3
      injection e3 with e3 _
      subst e1; subst e2; subst e3
      obtain ⟨k, hk, rfl, _⟩ := small _ _ _ (inK _ h2)
      exact .inr (List.mem_append.2 (.inr (mem_joinTo.2 ⟨k, hk, .inl ⟨Ne.symm hne, h2, rfl⟩⟩)))
    · rcases List.mem_cons.1 h2 with e | k2
      · injection e with e1 e2
        injection e2 with e2 e3
        injection e3 with e3 _
        subst e1; subst e2; subst e3
        obtain ⟨k, hk, rfl, _⟩ := smallm _ _ _ (inK _ h1)
        exact .inr (List.mem_append.2 (.inr (mem_joinTo.2 ⟨k, hk, .inr ⟨hne, h1, rfl⟩⟩)))
      · exact key _ (h.join x y z d k1 k2 hne)

/-- How many threes are not told yet. -/
def untold (n : Nat) (K : List (List Int)) : Nat := ((everyL n).filter fun t => decide (t ∉ K)).length
theorem untold_le (n : Nat) (K : List (List Int)) (h : n ≤ 7) : untold n K ≤ 343 := by
  have h1 := List.length_filter_le (fun t => decide (t ∉ K)) (everyL n)
  have h2 := everyL_len n h
  unfold untold; omega
theorem filter_less {α : Type} (p q : α → Bool) (l : List α) (x : α) (hx : x ∈ l) (hpx : p x = true) (hqx : q x = false) (himp : ∀ y, q y = true → p y = true) : (l.filter q).length < (l.filter p).length := by
  induction l with
  | nil => simp at hx
  | cons y l ih =>
    have hle : ∀ l : List α, (l.filter q).length ≤ (l.filter p).length := fun l => by
      induction l with
      | nil => simp
      | cons z l ih2 =>
        simp only [List.filter_cons]
        cases hq : q z with
        | true => rw [himp z hq]; simp; exact ih2
        | false =>
          cases hp : p z with
          | true => simp; omega
          | false => simpa using ih2
    simp only [List.filter_cons]
    rcases List.mem_cons.1 hx with rfl | hx
    · rw [hpx, hqx]
      have := hle l
      simp; omega
    · have := ih hx
      cases hq : q y with
      | true => rw [himp y hq]; simpa using this
      | false =>
        cases hp : p y with
        | true => simp; omega
        | false => simpa using this
theorem untold_cons (n : Nat) (K : List (List Int)) (t : List Int) (ht : Thr (n : Int) t) (hK : t ∉ K) : untold n (t :: K) < untold n K := by
  unfold untold
  refine filter_less _ _ _ t ((every_thr n t).2 ht) (by simpa using hK) (by simp) (fun y hy => ?_)
  simp only [decide_eq_true_eq, List.mem_cons, not_or] at hy ⊢
  exact hy.2
end Go.Proofs.YthefnanhikjddaaDoor
