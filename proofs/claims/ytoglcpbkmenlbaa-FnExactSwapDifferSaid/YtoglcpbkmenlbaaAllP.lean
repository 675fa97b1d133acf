/- All partings that part on a ring: what they are. -/
import Derived.Test.YtoglcpbkmenlbaaChS
import Derived.Test.YtoglcpbkmenlbaaGrow
namespace Go.Proofs.Ytoglcpbkmenlbaa
open Go.ChangeShapes Go.WideShapes Go.ChangeAt Go.RowKit

def p4 (a b c d : Nat) : List Int := [(a : Int), (b : Int), (c : Int), (d : Int)]
/-- The numbers from a + 1 on, ahead of b. -/
def upto (a b : Nat) : List Nat := List.range' (a + 1) (b - (a + 1))
theorem upto_self (a : Nat) : upto a (a + 1) = [] := by simp [upto]
theorem upto_succ (a b : Nat) (h : a < b) : upto a (b + 1) = upto a b ++ [b] := by
  unfold upto
  rw [show b + 1 - (a + 1) = (b - (a + 1)) + 1 by omega, List.range'_concat]
  rw [show a + 1 + 1 * (b - (a + 1)) = b by omega]
theorem upto_mem {a b x : Nat} (h : x ∈ upto a b) : a < x ∧ x < b := by
  unfold upto at h
  rw [List.mem_range'_1] at h
  omega
/-- One parting, if it parts. -/
def pk (l : List Int) (a b c d : Nat) : List (List Int) := if four l.length (p4 a b c d) && partB l (p4 a b c d) then [p4 a b c d] else []
def sz (l : List Int) (a b c d : Nat) : List (List Int) := (upto c d).flatMap fun j => pk l a b c j
def sy (l : List Int) (n a b c : Nat) : List (List Int) := (upto a c).flatMap fun j => sz l a b j n
def sx (l : List Int) (n a b : Nat) : List (List Int) := (upto a b).flatMap fun j => sy l n a j n
def sw (l : List Int) (n a : Nat) : List (List Int) := (List.range a).flatMap fun j => sx l n j n
def allP (l : List Int) : List (List Int) := sw l l.length l.length
theorem sz_self (l : List Int) (a b c : Nat) : sz l a b c (c + 1) = [] := by simp [sz, upto_self]
theorem sz_succ (l : List Int) (a b c d : Nat) (h : c < d) : sz l a b c (d + 1) = sz l a b c d ++ pk l a b c d := by simp [sz, upto_succ c d h]
theorem sy_self (l : List Int) (n a b : Nat) : sy l n a b (a + 1) = [] := by simp [sy, upto_self]
theorem sy_succ (l : List Int) (n a b c : Nat) (h : a < c) : sy l n a b (c + 1) = sy l n a b c ++ sz l a b c n := by simp [sy, upto_succ a c h]
theorem sx_self (l : List Int) (n a : Nat) : sx l n a (a + 1) = [] := by simp [sx, upto_self]
theorem sx_succ (l : List Int) (n a b : Nat) (h : a < b) : sx l n a (b + 1) = sx l n a b ++ sy l n a b n := by simp [sx, upto_succ a b h]
theorem sw_zero (l : List Int) (n : Nat) : sw l n 0 = [] := rfl
theorem sw_succ (l : List Int) (n a : Nat) : sw l n (a + 1) = sw l n a ++ sx l n a n := by simp [sw, List.range_succ]

theorem flatMap_le {α β : Type} (L : List α) (f : α → List β) (m : Nat) (h : ∀ x ∈ L, (f x).length ≤ m) : (L.flatMap f).length ≤ L.length * m := by
  induction L with
  | nil => simp
  | cons x L ih =>
    have h1 := h x (by simp)
    have h2 := ih (fun y hy => h y (by simp [hy]))
    rw [List.flatMap_cons, List.length_append, List.length_cons, Nat.succ_mul]
    omega
theorem upto_len (a b : Nat) : (upto a b).length ≤ b := by simp [upto]
theorem pk_len (l : List Int) (a b c d : Nat) : (pk l a b c d).length ≤ 1 := by unfold pk; split <;> simp
theorem sz_len (l : List Int) (a b c d : Nat) (h : d ≤ 7) : (sz l a b c d).length ≤ 7 := by
  have h1 := flatMap_le (upto c d) (fun j => pk l a b c j) 1 (fun x _ => pk_len _ _ _ _ _)
  have h2 := upto_len c d
  unfold sz; omega
theorem sy_len (l : List Int) (n a b c : Nat) (hn : n ≤ 7) (h : c ≤ 7) : (sy l n a b c).length ≤ 49 := by
  have h1 := flatMap_le (upto a c) (fun j => sz l a b j n) 7 (fun x _ => sz_len _ _ _ _ _ hn)
  have h2 := upto_len a c
  unfold sy; omega
theorem sx_len (l : List Int) (n a b : Nat) (hn : n ≤ 7) (h : b ≤ 7) : (sx l n a b).length ≤ 343 := by
  have h1 := flatMap_le (upto a b) (fun j => sy l n a j n) 49 (fun x _ => sy_len _ _ _ _ _ hn hn)
  have h2 := upto_len a b
  unfold sx; omega
theorem sw_len (l : List Int) (n a : Nat) (hn : n ≤ 7) (h : a ≤ 7) : (sw l n a).length ≤ 2401 := by
  have h1 := flatMap_le (List.range a) (fun j => sx l n j n) 343 (fun x _ => sx_len _ _ _ _ hn hn)
  rw [List.length_range] at h1
  unfold sw; omega
theorem allP_len (l : List Int) (h : l.length ≤ 7) : (allP l).length ≤ 2401 := sw_len l _ _ h h
theorem pk_row (l : List Int) (a b c d : Nat) : ∀ p ∈ pk l a b c d, p.length = 4 := fun p hp => by
  unfold pk at hp
  split at hp
  · rw [List.mem_singleton.1 hp]; rfl
  · simp at hp
theorem allP_row (l : List Int) : ∀ p ∈ allP l, p.length = 4 := fun p hp => by
  unfold allP sw sx sy sz at hp
  simp only [List.mem_flatMap] at hp
  obtain ⟨_, _, _, _, _, _, _, _, h⟩ := hp
  exact pk_row _ _ _ _ _ p h

end Go.Proofs.Ytoglcpbkmenlbaa
