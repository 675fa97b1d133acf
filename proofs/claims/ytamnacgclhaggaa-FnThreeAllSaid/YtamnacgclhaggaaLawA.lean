/- All threes of a ring: contracts over rows at hand; their order, how many. -/
import Derived.Test.YtamnacgclhaggaaRwS
import Derived.Test.YtamnacgclhaggaaPick
import Derived.Test.YtamnacgclhaggaaTgA
import Derived.Test.YtamnacgclhaggaaCC
import Derived.Test.YtamnacgclhaggaaMA
namespace Go.Proofs.Ytamnacgclhaggaa
open Go.ChangeShapes Go.WideShapes Go.ChangeAt Go.RowKit

section
variable {w : World} {A A' : Option Addr} {n c m d : Nat} {l t : List Int}
theorem cI_ThreeAll (h : Rw w A n c l) : Calls Try.prog 13 #[.slice A n c] w fun e w' => ∃ v, e = .returned (.tuple #[v, .bool (ringB l)]) ∧ NewS w' v (alR l) ∧ Below w.heap.size w w' :=
  (alI_any A n c w.heap.size l w h.rd (Nat.le_refl _) h.big h.2.1 h.2.2.1).mono fun _ _ ⟨v, e1, ho, hb⟩ => ⟨v, e1, ho.newS (alR_tot l), hb⟩
theorem cS_ThreeAll (h : Rw w A n c l) : Calls Try.prog 14 #[.slice A n c] w fun e w' => ∃ v, e = .returned (.tuple #[v, .bool (ringB l)]) ∧ NewS w' v (alR l) ∧ Below w.heap.size w w' :=
  (alS_any A n c w.heap.size l w h.rd (Nat.le_refl _) h.big).mono fun _ _ ⟨v, e1, ho, hb⟩ => ⟨v, e1, newS_of ho (alR_tot l), hb⟩
theorem cI_ThreeInR (h : Rw w A n c l) (h' : Rd w w.heap.size A' m t) (hm : m ≤ 1048576) (hmd : m ≤ d) (hdm : d ≤ 9223372036854775807) : Calls Try.prog 16 #[.slice A n c, .slice A' m d] w fun e w' => e = .returned (.bool (inB l t)) ∧ Below w.heap.size w w' :=
  tiI_any A n c A' m d w.heap.size l t w h.rd h' (Nat.le_refl _) h.big hm h.2.1 h.2.2.1 hmd hdm
end
/-- A three as one number. -/
def tnum (t : List Int) : Int := 100 * t.getD 0 0 + 10 * t.getD 1 0 + t.getD 2 0
theorem every_sorted : ∀ n : Fin 8, (everyL n.val).Pairwise (fun a b => tnum a < tnum b) := by decide +kernel
theorem every_turn : ∀ n : Fin 8, ((everyL n.val).map turn3).isPerm (everyL n.val) = true := by decide +kernel
theorem every_len : ∀ n : Fin 8, (everyL n.val).length = n.val * (n.val - 1) * (n.val - 2) := by decide +kernel
theorem has3_way {l t : List Int} (hr : Ring l) (ht : Thr (l.length : Int) t) : has3 l (turn3 t) = !has3 l t := by
  obtain ⟨x, y, z, rfl⟩ := of_three ht.1
  rw [thr3] at ht
  have hx : x ∈ l := hr.1.has (by omega) (by omega)
  have hy : y ∈ l := hr.1.has (by omega) (by omega)
  have hz : z ∈ l := hr.1.has (by omega) (by omega)
  show has3 l [x, z, y] = _
  cases e : has3 l [x, y, z] with
  | true => rw [has3_not e]; rfl
  | false =>
    rcases has3_some hx hy hz (by omega) with h | h
    · rw [h] at e; cases e
    · rw [h]; rfl
theorem half_all {l : List Int} (hr : Ring l) : 2 * ((everyL l.length).filter (has3 l)).length = l.length * (l.length - 1) * (l.length - 2) := by
  have h7 := hr.1.2.1
  have hp := List.isPerm_iff.1 (every_turn ⟨l.length, by omega⟩)
  have hl := every_len ⟨l.length, by omega⟩
  simp only at hp hl
  have e1 : ((everyL l.length).filter (has3 l)).length = ((everyL l.length).filter fun t => !has3 l t).length := by
    rw [← (hp.filter (has3 l)).length_eq, List.filter_map, List.length_map]
    congr 1
    exact List.filter_congr fun t ht => has3_way hr ((every_thr _ t).1 ht)
  have e2 : ∀ M : List (List Int), (M.filter fun t => !has3 l t).length + (M.filter (has3 l)).length = M.length := fun M => by
    induction M with
    | nil => rfl
    | cons a t ih =>
      rw [List.filter_cons, List.filter_cons]
      cases has3 l a <;> simp <;> omega
  have := e2 (everyL l.length)
  omega
theorem all_told {l : List Int} (hr : ringB l = true) : (alR l).Pairwise (fun a b => tnum a < tnum b) ∧ (∀ t ∈ alR l, inB l t = true ∧ ∃ x y z : Int, t = [x, y, z] ∧ 0 ≤ x ∧ x ≤ 6 ∧ 0 ≤ y ∧ y ≤ 6 ∧ 0 ≤ z ∧ z ≤ 6) ∧ 2 * (alR l).length = l.length * (l.length - 1) * (l.length - 2) := by
  have hR : Ring l := by simpa [ringB] using hr
  have h3 := hR.1.1
  have h7 := hR.1.2.1
  have e : alR l = (everyL l.length).filter (has3 l) := by unfold alR; rw [if_pos hR]; unfold sharedL; exact List.filter_congr fun t _ => by simp
  rw [e]
  refine ⟨(every_sorted ⟨l.length, by omega⟩).sublist List.filter_sublist, fun t ht => ?_, half_all hR⟩
  obtain ⟨h1, h2⟩ := List.mem_filter.1 ht
  have hthr := (every_thr _ t).1 h1
  refine ⟨by unfold inB; rw [hr, (thr_yes hthr).1, h2]; rfl, ?_⟩
  obtain ⟨x, y, z, rfl⟩ := of_three hthr.1
  rw [thr3] at hthr
  exact ⟨x, y, z, rfl, hthr.1.1, by omega, hthr.2.1.1, by omega, hthr.2.2.1.1, by omega⟩
end Go.Proofs.Ytamnacgclhaggaa
