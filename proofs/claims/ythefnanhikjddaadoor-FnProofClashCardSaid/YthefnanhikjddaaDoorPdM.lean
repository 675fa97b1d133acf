/- Points behind a word, each one a digit behind a space: maths. -/
import Derived.Test.YthefnanhikjddaaDoorMA
import Derived.Lib.Strings
namespace Go.Proofs.YthefnanhikjddaaDoor
open Go.ChangeShapes Go.WideShapes Go.ChangeAt Go.RowKit

def dgs : List UInt8 → Option (List Int)
  | [] => some []
  | [_] => none
  | a :: b :: r => if a.toNat = 32 ∧ 48 ≤ b.toNat ∧ b.toNat ≤ 57 then (dgs r).map (fun l => ((b.toNat : Int) - 48) :: l) else none
theorem dgs_nil : dgs [] = some [] := rfl
theorem dgs_yes (a b : UInt8) (r : List UInt8) (h : a.toNat = 32 ∧ 48 ≤ b.toNat ∧ b.toNat ≤ 57) : dgs (a :: b :: r) = (dgs r).map (fun l => ((b.toNat : Int) - 48) :: l) := by rw [dgs, if_pos h]
theorem dgs_no (a b : UInt8) (r : List UInt8) (h : ¬ (a.toNat = 32 ∧ 48 ≤ b.toNat ∧ b.toNat ≤ 57)) : dgs (a :: b :: r) = none := by rw [dgs, if_neg h]
theorem dgs_all (s : List UInt8) : (s.length % 2 = 1 → dgs s = none) ∧ ∀ l, dgs s = some l → s.length = 2 * l.length ∧ ∀ x ∈ l, 0 ≤ x ∧ x ≤ 9 := by
  induction s using dgs.induct with
  | case1 => exact ⟨fun h => by simp at h, fun l h => by rw [dgs] at h; obtain rfl := Option.some.inj h; simp⟩
  | case2 a => exact ⟨fun _ => rfl, fun l h => by rw [dgs] at h; cases h⟩
  | case3 a b r hg ih =>
    refine ⟨fun h => ?_, fun l h => ?_⟩
    · rw [dgs_yes _ _ _ hg, ih.1 (by simp at h; omega)]; rfl
    · rw [dgs_yes _ _ _ hg] at h
      rcases hr : dgs r with _ | l'
      · rw [hr] at h; cases h
      · rw [hr] at h
        obtain rfl := Option.some.inj h
        obtain ⟨h1, h2⟩ := ih.2 l' hr
        refine ⟨by simp; omega, fun x hx => ?_⟩
        rcases List.mem_cons.1 hx with rfl | hx
        · omega
        · exact h2 x hx
  | case4 a b r hg =>
    exact ⟨fun _ => dgs_no _ _ _ hg, fun l h => by rw [dgs_no _ _ _ hg] at h; cases h⟩
theorem dgs_len {s : List UInt8} {l : List Int} (h : dgs s = some l) : s.length = 2 * l.length := ((dgs_all s).2 l h).1
theorem dgs_bd {s : List UInt8} {l : List Int} (h : dgs s = some l) : ∀ x ∈ l, 0 ≤ x ∧ x ≤ 9 := ((dgs_all s).2 l h).2
theorem dgs_odd {s : List UInt8} (h : s.length % 2 = 1) : dgs s = none := (dgs_all s).1 h

/-- The points behind a word. -/
def rdW (word s : List UInt8) : Option (List Int) := if Lib.hasPrefix s word then dgs (s.drop word.length) else none
theorem rdW_bd {word s : List UInt8} {l : List Int} (h : rdW word s = some l) : ∀ x ∈ l, 0 ≤ x ∧ x ≤ 9 := by
  unfold rdW at h
  split at h
  · exact dgs_bd h
  · cases h
theorem rdW_len {word s : List UInt8} {l : List Int} (h : rdW word s = some l) : 2 * l.length ≤ s.length := by
  unfold rdW at h
  split at h
  · have := dgs_len h
    simp at this
    omega
  · cases h

/-- What is left of a text from a place on. -/
def sx (s : ByteArray) (k : Nat) : List UInt8 := s.data.toList.drop k
theorem sx_cons (s : ByteArray) (k : Nat) (h : k < s.size) : sx s k = s[k] :: sx s (k + 1) := by
  unfold sx
  rw [List.drop_eq_getElem_cons (by simpa using h)]
  rfl
theorem sx_two (s : ByteArray) (k : Nat) (h : k + 1 < s.size) : sx s k = s[k] :: s[k + 1] :: sx s (k + 2) := by
  rw [sx_cons s k (by omega), sx_cons s (k + 1) h]
theorem sx_end (s : ByteArray) : sx s s.size = [] := by unfold sx; exact List.drop_eq_nil_of_le (by simp)
theorem sx_len (s : ByteArray) (k : Nat) : (sx s k).length = s.size - k := by simp [sx]
theorem sx_zero (s : ByteArray) : sx s 0 = s.data.toList := rfl

/-- A round of the reading: the acc is what has been read. -/
theorem rd_step {r : Option (List Int)} {s : ByteArray} {p q : Nat} {acc : List Int} (h : r = (dgs (sx s p)).map fun l => acc ++ l) (hp : p < s.size) (hq : q < s.size) (e : q = p + 1)
    (hg : s[p].toNat = 32 ∧ 48 ≤ s[q].toNat ∧ s[q].toNat ≤ 57) : r = (dgs (sx s (p + 2))).map fun l => (acc ++ [(s[q].toNat : Int) - 48]) ++ l := by
  subst e
  rw [h, sx_two s p hq, dgs_yes _ _ _ hg, Option.map_map]
  congr 1
  funext l
  simp
theorem rd_bad {r : Option (List Int)} {s : ByteArray} {p q : Nat} {acc : List Int} (h : r = (dgs (sx s p)).map fun l => acc ++ l) (hp : p < s.size) (hq : q < s.size) (e : q = p + 1)
    (hg : ¬ (s[p].toNat = 32 ∧ 48 ≤ s[q].toNat ∧ s[q].toNat ≤ 57)) : r = none := by
  subst e
  rw [h, sx_two s p hq, dgs_no _ _ _ hg]; rfl
theorem rd_done {r : Option (List Int)} {s : ByteArray} {acc : List Int} (h : r = (dgs (sx s s.size)).map fun l => acc ++ l) : r = some acc := by
  rw [h, sx_end]; simp [dgs]

/-- A word and points, told. -/
def told (word : List UInt8) (l : List Int) : List UInt8 := word ++ l.flatMap fun x => [32, UInt8.ofNat (48 + x.toNat)]
theorem told_snoc (word : List UInt8) (l : List Int) (x : Int) : told word (l ++ [x]) = told word l ++ [32, UInt8.ofNat (48 + x.toNat)] := by simp [told]
theorem told_len (word : List UInt8) (l : List Int) : (told word l).length = word.length + 2 * l.length := by
  induction l with
  | nil => simp [told]
  | cons x l ih => simp [told] at ih ⊢; omega
end Go.Proofs.YthefnanhikjddaaDoor
