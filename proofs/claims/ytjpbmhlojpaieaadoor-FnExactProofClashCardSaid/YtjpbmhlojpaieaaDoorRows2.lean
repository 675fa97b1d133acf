/- A slice of slices of ints that came in, as a proof's frame meets it. -/
import Derived.Test.YtjpbmhlojpaieaaDoorFill
import Derived.Deep.Matrix
namespace Go.Proofs.YtjpbmhlojpaieaaDoor
open Go.ChangeShapes Go.WideShapes Go.ChangeAt Go.RowKit Go.Deep

/-- What a proof's frame tells of a slice of slices that came in. -/
def IsRows (w : World) (a : Option Addr) (len cap : Nat) (L : List (List Int)) : Prop := RdS w w.heap.size a len L ∧ len ≤ cap ∧ cap ≤ 9223372036854775807

theorem rows_in {H : Type} {enc : TypeId × Value → H} {w : World} {fuel : Nat} {held : Bool} {a : Option Addr} {len cap : Nat} {x : DataW H × List MemPlace}
    (h : DataW.trod enc Tryd.prog w 0 (fun _ => true) held fuel 28 [.slice a len cap] = some x) : ∃ L, IsRows w a len cap L := by
  rcases open_int_rows Tryd.underlying28 Tryd.underlying22 Tryd.underlying3 (by kernel_rfl) (by kernel_rfl) h with ⟨hcs, _⟩ | ⟨ad, l, c, A, L, C, Z, hcs, _, hl, hm, _, hr⟩
  · simp at hcs
    obtain ⟨rfl, rfl, rfl⟩ := hcs
    exact ⟨[], RdS.nil, Nat.le_refl _, by omega⟩
  · simp at hcs
    obtain ⟨rfl, rfl, rfl⟩ := hcs
    have hm' : cap ≤ 9223372036854775807 := by unfold maxLen at hm; omega
    have hrow : ∀ k, k < len → rowK ((List.range len).map fun r => (Z r).take (L r)) k = (Z k).take (L k) := fun k hk => by simp [rowK, List.getD, hk]
    refine ⟨(List.range len).map fun r => (Z r).take (L r), ⟨by simp, fun hp => ?_⟩, hl, hm'⟩
    obtain ⟨b, off, spot⟩ := ad
    have h0 := (hr 0 (by omega)).1
    have hs : spot = none := by simpa [Addr.add] using World.cell?_spot h0
    subst hs
    refine ⟨b, off, rfl, World.block_lt_of_cell? w ⟨b, off, none⟩ (by simpa [Addr.add] using h0), fun k hk => ?_⟩
    obtain ⟨h1, h2, h3, h4, h5, h6, h7⟩ := hr k (by omega)
    rw [Addr.add_lit] at h1
    have hlen : ((Z k).take (L k)).length = L k := by rw [List.length_take]; omega
    rw [hrow k hk, hlen]
    refine ⟨A k, C k, h1, ⟨hlen, fun hpos => ?_⟩, h2, by unfold maxLen at h3; omega⟩
    cases hA : A k with
    | none => have := h6 hA; omega
    | some a' =>
      obtain ⟨b', off', spot'⟩ := a'
      have hcs := (h7 _ hA).2
      have hc0 := hcs 0 (by omega)
      have hs' : spot' = none := by simpa [Addr.add] using World.cell?_spot hc0
      subst hs'
      refine ⟨b', off', rfl, World.block_lt_of_cell? w ⟨b', off', none⟩ (by simpa [Addr.add] using hc0), fun j hj => ?_⟩
      have := hcs j (by omega)
      rw [Addr.add_lit] at this
      rw [this]
      simp [List.getD, hj]
end Go.Proofs.YtjpbmhlojpaieaaDoor
