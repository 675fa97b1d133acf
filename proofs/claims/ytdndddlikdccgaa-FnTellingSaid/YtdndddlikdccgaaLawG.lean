/- The contracts of the chapter of threes over slices of rows at hand. -/
import Derived.Test.YtdndddlikdccgaaRwS
import Derived.Test.YtdndddlikdccgaaCD
import Derived.Test.YtdndddlikdccgaaCC
import Derived.Test.YtdndddlikdccgaaMostT
import Derived.Test.YtdndddlikdccgaaPE
namespace Go.Proofs.Ytdndddlikdccgaa
open Go.ChangeShapes Go.WideShapes Go.ChangeAt Go.RowKit

section
variable {w : World} {A : Option Addr} {n c : Nat} {L : List (List Int)} (h : RwS w A n c L) (q : Int)
include h
theorem cI_ThreeTelling : Calls Try.prog 14 #[.int .i64 q, .slice A n c] w fun e w' => e = .returned (.bool (tel q L)) ∧ Below w.heap.size w w' := tlI_any A n c w.heap.size q L w h.rd (Nat.le_refl _) h.1.2
theorem cS_ThreeTelling : Calls Try.prog 15 #[.int .i64 q, .slice A n c] w fun e w' => e = .returned (.bool (tel q L)) ∧ Below w.heap.size w w' := tlS_any A n c w.heap.size q L w h.rd (Nat.le_refl _) h.1.2
theorem cI_ThreeClash : Calls Try.prog 25 #[.int .i64 q, .slice A n c] w fun e w' => e = .returned (.bool (chB q L)) ∧ Below w.heap.size w w' := chI_any A n c w.heap.size q L w h.rd (Nat.le_refl _) h.1.2
theorem cS_ThreeClash : Calls Try.prog 26 #[.int .i64 q, .slice A n c] w fun e w' => e = .returned (.bool (chB q L)) ∧ Below w.heap.size w w' := chS_any A n c w.heap.size q L w h.rd (Nat.le_refl _) h.1.2
theorem cI_ThreeRings : Calls Try.prog 23 #[.int .i64 q, .slice A n c] w fun e w' => e = .returned (.tuple #[.int .i64 (rgR q L), .bool (tel q L)]) ∧ Below w.heap.size w w' := trI_any A n c w.heap.size q L w h.rd (Nat.le_refl _) h.1.2
theorem cS_ThreeRings : Calls Try.prog 29 #[.int .i64 q, .slice A n c] w fun e w' => e = .returned (.tuple #[.int .i64 (rgR q L), .bool (tel q L)]) ∧ Below w.heap.size w w' := trS_any A n c w.heap.size q L w h.rd (Nat.le_refl _) h.1.2
theorem cI_ThreeMost : Calls Try.prog 27 #[.int .i64 q, .slice A n c] w fun e w' => e = .returned (.tuple #[.int .i64 (mvR q L), .bool (tel q L)]) ∧ Below w.heap.size w w' := mvI_any A n c w.heap.size q L w h.rd (Nat.le_refl _) h.1.2
theorem cS_ThreeMost : Calls Try.prog 38 #[.int .i64 q, .slice A n c] w fun e w' => e = .returned (.tuple #[.int .i64 (mvR q L), .bool (tel q L)]) ∧ Below w.heap.size w w' := mvS_any A n c w.heap.size q L w h.rd (Nat.le_refl _) h.1.2
theorem cI_ThreeBack : Calls Try.prog 16 #[.int .i64 q, .slice A n c] w fun e w' => ∃ v, e = .returned (.tuple #[v, .bool (tel q L)]) ∧ NewS w' v (backT q L) ∧ Below w.heap.size w w' :=
  (b3I_any A n c w.heap.size q L w h.rd (Nat.le_refl _) h.1.2).mono fun _ _ ⟨v, e1, ho, hb⟩ => ⟨v, e1, ho.newS (backT_tot q L), hb⟩
theorem cS_ThreeBack : Calls Try.prog 43 #[.int .i64 q, .slice A n c] w fun e w' => ∃ v, e = .returned (.tuple #[v, .bool (tel q L)]) ∧ NewS w' v (backT q L) ∧ Below w.heap.size w w' :=
  (b3S_any A n c w.heap.size q L w h.rd (Nat.le_refl _) h.1.2).mono fun _ _ ⟨v, e1, ho, hb⟩ => ⟨v, e1, newS_of ho (backT_tot q L), hb⟩
theorem cI_ThreeClose : Calls Try.prog 18 #[.int .i64 q, .slice A n c] w fun e w' => ∃ v, e = .returned (.tuple #[v, .bool (tel q L)]) ∧ NewS w' v (clR q L) ∧ Below w.heap.size w w' :=
  (clI_any A n c w.heap.size q L w h.rd (Nat.le_refl _) h.1.2).mono fun _ _ ⟨v, e1, ho, hb⟩ => ⟨v, e1, ho.newS (clR_tot q L), hb⟩
theorem cS_ThreeClose : Calls Try.prog 19 #[.int .i64 q, .slice A n c] w fun e w' => ∃ v, e = .returned (.tuple #[v, .bool (tel q L)]) ∧ NewS w' v (clR q L) ∧ Below w.heap.size w w' :=
  (clS_any A n c w.heap.size q L w h.rd (Nat.le_refl _) h.1.2).mono fun _ _ ⟨v, e1, ho, hb⟩ => ⟨v, e1, newS_of ho (clR_tot q L), hb⟩
theorem cI_ThreeSure : Calls Try.prog 21 #[.int .i64 q, .slice A n c] w fun e w' => ∃ v, e = .returned (.tuple #[v, .bool (tel q L)]) ∧ NewS w' v (suR q L) ∧ Below w.heap.size w w' :=
  (suI_any A n c w.heap.size q L w h.rd (Nat.le_refl _) h.1.2).mono fun _ _ ⟨v, e1, ho, hb⟩ => ⟨v, e1, ho.newS (suR_tot q L), hb⟩
theorem cS_ThreeSure : Calls Try.prog 36 #[.int .i64 q, .slice A n c] w fun e w' => ∃ v, e = .returned (.tuple #[v, .bool (tel q L)]) ∧ NewS w' v (suR q L) ∧ Below w.heap.size w w' :=
  (suS_any A n c w.heap.size q L w h.rd (Nat.le_refl _) h.1.2).mono fun _ _ ⟨v, e1, ho, hb⟩ => ⟨v, e1, newS_of ho (suR_tot q L), hb⟩
theorem cI_ThreeFirst : Calls Try.prog 30 #[.int .i64 q, .slice A n c] w fun e w' => ∃ v, e = .returned (.tuple #[v, .bool (fsB q L)]) ∧ NewG w' v (fsR q L) ∧ Below w.heap.size w w' :=
  (fsI_any A n c w.heap.size q L w h.rd (Nat.le_refl _) h.1.2).mono fun _ _ ⟨v, e1, ho, hb⟩ => ⟨v, e1, ho.newG (fsR_length q L), hb⟩
theorem cS_ThreeFirst : Calls Try.prog 32 #[.int .i64 q, .slice A n c] w fun e w' => ∃ v, e = .returned (.tuple #[v, .bool (fsB q L)]) ∧ NewG w' v (fsR q L) ∧ Below w.heap.size w w' :=
  (fsS_any A n c w.heap.size q L w h.rd (Nat.le_refl _) h.1.2).mono fun _ _ ⟨v, e1, ho, hb⟩ => ⟨v, e1, ho.newG (fsR_length q L), hb⟩
theorem cI_ThreeMostRing : Calls Try.prog 40 #[.int .i64 q, .slice A n c] w fun e w' => ∃ v, e = .returned (.tuple #[v, .bool (tel q L)]) ∧ NewG w' v (mrR q L) ∧ Below w.heap.size w w' :=
  (mrI_any A n c w.heap.size q L w h.rd (Nat.le_refl _) h.1.2).mono fun _ _ ⟨v, e1, ho, hb⟩ => ⟨v, e1, ho.newG (mrR_length q L), hb⟩
theorem cS_ThreeMostRing : Calls Try.prog 41 #[.int .i64 q, .slice A n c] w fun e w' => ∃ v, e = .returned (.tuple #[v, .bool (tel q L)]) ∧ NewG w' v (mrR q L) ∧ Below w.heap.size w w' :=
  (mrS_any A n c w.heap.size q L w h.rd (Nat.le_refl _) h.1.2).mono fun _ _ ⟨v, e1, ho, hb⟩ => ⟨v, e1, ho.newG (mrR_length q L), hb⟩
end
end Go.Proofs.Ytdndddlikdccgaa
