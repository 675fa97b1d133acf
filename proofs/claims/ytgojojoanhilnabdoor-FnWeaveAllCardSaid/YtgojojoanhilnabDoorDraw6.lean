/- The laws' drawers of rings, of a ring and a point or two. -/
import Derived.Test.YtgojojoanhilnabDoorDrawR
import Derived.Test.YtgojojoanhilnabDoorRw
namespace Go.Proofs.YtgojojoanhilnabDoor
open Go.ChangeShapes Go.WideShapes Go.ChangeAt Go.RowKit

theorem u8_in {v : Int} (h : (Lit.int .u8 v).wf = true) : 0 ≤ v ∧ v < 256 := by
  have e : IntKind.u8.min ≤ v ∧ v ≤ IntKind.u8.max := by simpa [Lit.wf] using h
  simp [IntKind.min, IntKind.max, IntKind.signed, IntKind.bits] at e
  omega
theorem byt_of_row {w : World} {a : Option Addr} {len cap : Nat} {zs : List Int} (h : IsRow .u8 w a len cap zs) : Byt w w.heap.size a len ∧ len ≤ cap ∧ cap ≤ 9223372036854775807 := by
  rcases h with ⟨rfl, rfl, rfl, rfl⟩ | ⟨x, rfl, hl, hm, hz, hcell, hwf⟩
  · exact ⟨fun h => absurd h (by omega), by omega, by omega⟩
  · unfold maxLen at hm
    refine ⟨fun hp => ?_, hl, hm⟩
    obtain ⟨b, off, spot⟩ := x
    have hc := hcell 0 (by omega)
    have hspot : spot = none := by simpa [Addr.add] using World.cell?_spot hc
    subst hspot
    refine ⟨b, off, rfl, World.block_lt_of_cell? w ⟨b, off, none⟩ (by simpa [Addr.add] using hc), fun k hk => ?_⟩
    have h1 := hcell k (by omega)
    have h2 := u8_in (hwf _ (getD_mem zs k (by omega)))
    rw [Addr.add_lit] at h1
    exact ⟨(zs.getD k 0).toNat, by omega, by rw [h1, Int.toNat_of_nonneg h2.1]⟩

theorem below_grown {w w1 w2 : World} {R : Nat} (h : Below R w w1) (hg : w1.grownBy w2 (some R)) (hR : R < w1.heap.size) : Below R w w2 :=
  h.grown hg (by omega) (by intro k hk; have e : R = k := Option.some.inj hk; omega)

end Go.Proofs.YtgojojoanhilnabDoor
