/- The laws' marks of threes: one bool for each three; what marks are when they are closed. -/
import Derived.Test.YtdlgabefbomleaaClo
import Derived.Test.YtdlgabefbomleaaSure
import Derived.Deep.LoopGhost
namespace Go.Proofs.Ytdlgabefbomleaa
open Go.ChangeShapes Go.WideShapes Go.ChangeAt Go.RowKit

def codeN (a b c : Nat) : Nat := 36 * a + 6 * b + c
theorem codeN_lt {a b c : Nat} (ha : a < 6) (hb : b < 6) (hc : c < 6) : codeN a b c < 216 := by unfold codeN; omega

set_option maxRecDepth 10000 in
theorem code_any (a b c : Nat) (w : World) (ha : a < 6) (hb : b < 6) (hc : c < 6) :
    Calls Try.prog 66 #[.int .i64 (a : Int), .int .i64 (b : Int), .int .i64 (c : Int)] w fun e w' => e = .returned (.int .i64 ((codeN a b c : Nat) : Int)) ∧ w' = w := by
  have hw1 : IntKind.i64.wrap (36 * (a : Int)) = 36 * (a : Int) := IntWalk.i64_in _ (by omega)
  have hw2 : IntKind.i64.wrap (6 * (b : Int)) = 6 * (b : Int) := IntWalk.i64_in _ (by omega)
  have hw3 : IntKind.i64.wrap (36 * (a : Int) + 6 * (b : Int)) = 36 * (a : Int) + 6 * (b : Int) := IntWalk.i64_in _ (by omega)
  have hw4 : IntKind.i64.wrap (36 * (a : Int) + 6 * (b : Int) + (c : Int)) = 36 * (a : Int) + 6 * (b : Int) + (c : Int) := IntWalk.i64_in _ (by omega)
  have HE : Hid (((codeN a b c : Nat) : Int) = 36 * (a : Int) + 6 * (b : Int) + (c : Int)) := by simp [Hid, codeN]
  go_enter Try.func66, Try.ntmps66
  go_wp2
  go_ret
  exact ⟨by rw [HE.out]; rfl, rfl⟩

/-- Block g holds 216 bools: those are true whose three is in K. -/
def Mk (w : World) (g : Nat) (K : List (List Int)) : Prop :=
  ∃ P : List Bool, P.length = 216 ∧ w.heap[g]? = some (.cells (P.map Value.bool).toArray 4 (0, 0)) ∧ ∀ a b c : Nat, a < 6 → b < 6 → c < 6 → P[codeN a b c]? = some (decide ([(a : Int), (b : Int), (c : Int)] ∈ K))
section
variable {w w' : World} {g D : Nat} {K : List (List Int)}
theorem Mk.lt (h : Mk w g K) : g < w.heap.size := by
  obtain ⟨P, _, hg, _⟩ := h
  exact (Array.getElem?_eq_some_iff.1 hg).1
theorem Mk.same (h : Mk w g K) (hk : w'.heap[g]? = w.heap[g]?) : Mk w' g K := by
  obtain ⟨P, hl, hg, hP⟩ := h
  exact ⟨P, hl, hk.trans hg, hP⟩
theorem Mk.below (h : Mk w g K) (hb : Below D w w') (hD : g < D) : Mk w' g K := h.same (hb.block g hD)
theorem Mk.drewN (h : Mk w g K) (n : Nat) : Mk (w.drewN n) g K := h
theorem Mk.drew (h : Mk w g K) : Mk w.drew g K := h
theorem Mk.congr {K' : List (List Int)} (h : Mk w g K) (hK : ∀ t, t ∈ K ↔ t ∈ K') : Mk w g K' := by
  obtain ⟨P, hl, hg, hP⟩ := h
  refine ⟨P, hl, hg, fun a b c ha hb hc => ?_⟩
  rw [hP a b c ha hb hc]
  congr 1
  rw [Bool.eq_iff_iff]
  simp [hK]
theorem Mk.cell (h : Mk w g K) {a b c : Nat} (ha : a < 6) (hb : b < 6) (hc : c < 6) : w.cell? ⟨g, codeN a b c, none⟩ = some (.bool (decide ([(a : Int), (b : Int), (c : Int)] ∈ K))) := by
  obtain ⟨P, hl, hg, hP⟩ := h
  rw [cell_of_row w g _ _ _ (0, 0) hg, List.getElem?_toArray, List.getElem?_map, hP a b c ha hb hc]
  rfl
theorem Mk.frozen (h : Mk w g K) (i : Nat) : w.frozen? ⟨g, i, none⟩ = false := by
  obtain ⟨P, hl, hg, hP⟩ := h
  exact frozen_of_row w g i _ _ hg
theorem Mk.set (h : Mk w g K) {a b c : Nat} (ha : a < 6) (hb : b < 6) (hc : c < 6) : Mk (w.setCell ⟨g, codeN a b c, none⟩ (.bool true)) g ([(a : Int), (b : Int), (c : Int)] :: K) := by
  obtain ⟨P, hl, hg, hP⟩ := h
  refine ⟨P.set (codeN a b c) true, by simp [hl], ?_, fun a' b' c' ha' hb' hc' => ?_⟩
  · rw [List.map_set, ← List.setIfInBounds_toArray]
    simp [World.setCell, Array.getElem?_modify, hg]
  · rw [List.getElem?_set]
    by_cases e : codeN a b c = codeN a' b' c'
    · have e3 : a = a' ∧ b = b' ∧ c = c' := by unfold codeN at e; omega
      obtain ⟨rfl, rfl, rfl⟩ := e3
      have := codeN_lt ha hb hc
      simp [hl, this]
    · rw [if_neg e, hP a' b' c' ha' hb' hc']
      congr 1
      rw [Bool.eq_iff_iff]
      simp only [decide_eq_true_eq, List.mem_cons]
      constructor
      · exact .inr
      · rintro (e2 | e2)
        · exfalso
          injection e2 with e4 e5
          injection e5 with e5 e6
          injection e6 with e6 _
          have f1 : a' = a := by omega
          have f2 : b' = b := by omega
          have f3 : c' = c := by omega
          exact e (by rw [f1, f2, f3])
        · exact e2
theorem Mk.made (h : w.ownsRow D 4 1 (.slice (some ⟨g, 0, none⟩) 216 216) 216 (List.replicate 216 (.bool false))) : Mk w g [] := by
  rcases h.2 with ⟨e, _⟩ | ⟨g', cap, cur, e, hB, hg, hc, hm, hs, ht⟩
  · cases e
  · injection e with e1 e2 e3
    injection e1 with e1
    injection e1 with e1
    subst e1; subst e3
    have hcur : cur.toList = List.replicate 216 (.bool false) := by
      rw [← ht, List.take_of_length_le (by simp [hs])]
    refine ⟨List.replicate 216 false, List.length_replicate, ?_, fun a b c ha hb hc => ?_⟩
    · rw [hg]
      have : cur = ((List.replicate 216 false).map Value.bool).toArray := by
        rw [List.map_replicate, ← hcur]
      rw [this]
    · have := codeN_lt ha hb hc
      rw [List.getElem?_replicate, if_pos this]
      simp
theorem GrowS.set {v : Value} {L : List (List Int)} {B : Nat} (h : GrowS w B v L) (hg : g < B) (i : Nat) (u : Value) : GrowS (w.setCell ⟨g, i, none⟩ u) B v L :=
  h.keep fun k hk _ => Below.heap_setCell w _ u k (by simp; omega)
end

/-- What holds of one three when nothing is to be added for it, asked up to a point. -/
def Clo1 (K : List (List Int)) (t : List Int) (k : Nat) : Prop :=
  ∀ x y z : Int, t = [x, y, z] → t ∈ K → [y, z, x] ∈ K ∧ ∀ u : Nat, u < k → (u : Int) ≠ x → (u : Int) ≠ y → (u : Int) ≠ z → [x, z, (u : Int)] ∈ K → [x, y, (u : Int)] ∈ K
theorem clo_done {n : Nat} {L K : List (List Int)} (hL : ∀ t ∈ L, Thr (n : Int) t) (hin : ∀ t ∈ L, t ∈ K) (hs : ∀ t ∈ K, Cl L t) (hc : ∀ t ∈ everyL n, Clo1 K t n) (t : List Int) : t ∈ K ↔ Cl L t := by
  have hev : ∀ t ∈ K, t ∈ everyL n := fun t ht => (every_thr n t).2 ((hs t ht).thr hL)
  refine ⟨hs t, fun h => h.least (S := fun t => t ∈ K) ⟨fun a b c h => (hc _ (hev _ h) a b c rfl h).1, fun a b c d h1 h2 hne => ?_⟩ hin⟩
  have hd := (thr3 _ _ _ _).1 ((hs _ h2).thr hL)
  have h3 := (hc _ (hev _ h1) a b c rfl h1).2 d.toNat (by omega) (by omega) (by omega) (by omega)
  have e : ((d.toNat : Nat) : Int) = d := by omega
  rw [e] at h3
  exact h3 h2
theorem clo_mem {K : List (List Int)} {x y z : Int} (h : [y, z, x] ∈ K) : Clo1 K [x, y, z] 0 := fun x' y' z' e _ => by
  injection e with e1 e2
  injection e2 with e2 e3
  injection e3 with e3 _
  subst e1; subst e2; subst e3
  exact ⟨h, fun u hu => absurd hu (by omega)⟩
theorem clo_not {K : List (List Int)} {t : List Int} (h : t ∉ K) (k : Nat) : Clo1 K t k := fun _ _ _ _ ht => absurd ht h
theorem clo_step {K : List (List Int)} {x y z : Int} {k : Nat} (h : Clo1 K [x, y, z] k) (hk : (k : Int) ≠ x → (k : Int) ≠ y → (k : Int) ≠ z → [x, z, (k : Int)] ∈ K → [x, y, (k : Int)] ∈ K) : Clo1 K [x, y, z] (k + 1) := fun x' y' z' e ht => by
  obtain ⟨h1, h2⟩ := h x' y' z' e ht
  injection e with e1 e2
  injection e2 with e2 e3
  injection e3 with e3 _
  subst e1; subst e2; subst e3
  refine ⟨h1, fun u hu => ?_⟩
  rcases Nat.lt_succ_iff_lt_or_eq.1 hu with hu | rfl
  · exact h2 u hu
  · exact hk
theorem thr_nat {n : Nat} {t : List Int} (h : Thr (n : Int) t) : ∃ a b c : Nat, t = [(a : Int), (b : Int), (c : Int)] ∧ a < n ∧ b < n ∧ c < n ∧ a ≠ b ∧ b ≠ c ∧ a ≠ c := by
  obtain ⟨x, y, z, rfl⟩ := of_three h.1
  rw [thr3] at h
  refine ⟨x.toNat, y.toNat, z.toNat, ?_, by omega, by omega, by omega, by omega, by omega, by omega⟩
  rw [show ((x.toNat : Nat) : Int) = x by omega, show ((y.toNat : Nat) : Int) = y by omega, show ((z.toNat : Nat) : Int) = z by omega]
end Go.Proofs.Ytdlgabefbomleaa
