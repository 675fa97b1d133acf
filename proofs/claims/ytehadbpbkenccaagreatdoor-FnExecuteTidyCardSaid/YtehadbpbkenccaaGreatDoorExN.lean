/- No term's text has the end of a line in it. -/
import Derived.Test.YtehadbpbkenccaaGreatDoorTmQ
namespace Go.Proofs.YtehadbpbkenccaaGreatDoor

theorem p_ten (m : Nat) : (∀ l t n, l.length ≤ m → pT l = some (t, n) → (10 : UInt8) ∉ l.take n) ∧
    (∀ l acc ts n, l.length ≤ m → pB l acc = some (ts, n) → (10 : UInt8) ∉ l.take n) := by
  induction m with
  | zero =>
    refine ⟨fun l t n hl h => ?_, fun l acc ts n hl h => ?_⟩
    · obtain rfl : l = [] := List.length_eq_zero_iff.1 (by omega)
      rw [pT_nil] at h; cases h
    · obtain rfl : l = [] := List.length_eq_zero_iff.1 (by omega)
      rw [pB_nil] at h; cases h
  | succ m ih =>
    have hT : ∀ l t n, l.length ≤ m + 1 → pT l = some (t, n) → (10 : UInt8) ∉ l.take n := by
      intro l t n hl h
      match l with
      | [] => rw [pT_nil] at h; cases h
      | c :: l =>
        rw [pT] at h
        by_cases h1 : isL c = true
        · rw [if_pos h1] at h
          obtain ⟨rfl, rfl⟩ := Prod.mk.inj (Option.some.inj h)
          have : (10 : UInt8) ≠ c := fun e => by rw [← e] at h1; exact absurd h1 (by decide)
          simpa using this
        · rw [if_neg h1] at h
          by_cases h2 : c = 45
          · rw [if_pos h2] at h
            obtain ⟨⟨t', n'⟩, hp, he⟩ := Option.map_eq_some_iff.1 h
            obtain ⟨rfl, rfl⟩ : Tm.S t' = t ∧ n' + 1 = n := Prod.mk.inj he
            have a := ih.1 l t' n' (by simpa using hl) hp
            rw [List.take_succ_cons, h2]
            simpa using a
          · rw [if_neg h2] at h
            by_cases h3 : c = 40
            · rw [if_pos h3] at h
              obtain ⟨⟨ts', n'⟩, hp, he⟩ := Option.map_eq_some_iff.1 h
              obtain ⟨rfl, rfl⟩ : Tm.B ts' = t ∧ n' + 1 = n := Prod.mk.inj he
              have a := ih.2 l [] ts' n' (by simpa using hl) hp
              rw [List.take_succ_cons, h3]
              simpa using a
            · rw [if_neg h3] at h; cases h
    refine ⟨hT, fun l acc ts n hl h => ?_⟩
    match l with
    | [] => rw [pB_nil] at h; cases h
    | c :: l =>
      rw [pB] at h
      by_cases h1 : c = 41
      · rw [if_pos h1] at h
        by_cases h2 : 2 ≤ acc.length
        · rw [if_pos h2] at h
          obtain ⟨rfl, rfl⟩ := Prod.mk.inj (Option.some.inj h)
          rw [h1]; simp
        · rw [if_neg h2] at h; cases h
      · rw [if_neg h1] at h
        cases hp : pT (c :: l) with
        | none => rw [hp] at h; cases h
        | some r =>
          obtain ⟨t, k⟩ := r
          rw [hp] at h
          obtain ⟨⟨ts', n'⟩, hq, he⟩ := Option.map_eq_some_iff.1 h
          obtain ⟨rfl, rfl⟩ : ts' = ts ∧ n' + k = n := Prod.mk.inj he
          have a := hT _ _ _ hl hp
          obtain ⟨_, b, _⟩ := pT_ok hp
          have hk := len_pos t
          simp at hl
          have d := ih.2 (l.drop (k - 1)) (acc ++ [t]) ts' n' (by simp; omega) hq
          obtain ⟨j, rfl⟩ : ∃ j, k = j + 1 := ⟨k - 1, by omega⟩
          show (10 : UInt8) ∉ (c :: l).take (n' + (j + 1))
          rw [Nat.add_comm n', List.take_add, List.drop_succ_cons, List.mem_append]
          exact fun hm => hm.elim a d
theorem ring_ten {l : List UInt8} {t : Tm} (h : ringT l = some t) : (10 : UInt8) ∉ l := by
  obtain ⟨h1, _⟩ := ringT_ok h
  unfold rdT at h1
  by_cases h2 : l.length ≤ 60
  · rw [if_pos h2] at h1
    rcases hp : pT l with _ | ⟨u, n⟩
    · rw [hp] at h1; cases h1
    · rw [hp] at h1
      simp only at h1
      by_cases h3 : n = l.length
      · have := (p_ten l.length).1 l u n (Nat.le_refl _) hp
        rwa [h3, List.take_length] at this
      · rw [if_neg h3] at h1; cases h1
  · rw [if_neg h2] at h1; cases h1
end Go.Proofs.YtehadbpbkenccaaGreatDoor
