/- The functions of chapter 6 over rows at hand. -/
import Derived.Test.YtpfdlgofkcpglaaDoorDA
import Derived.Test.YtpfdlgofkcpglaaDoorWC
import Derived.Test.YtpfdlgofkcpglaaDoorBackT
namespace Go.Proofs.YtpfdlgofkcpglaaDoor
open Go.ChangeShapes Go.WideShapes Go.ChangeAt Go.RowKit

theorem Tab.step {w w' : World} (h : Tab w) (hb : Below w.heap.size w w') : Tab w' := h.on hb
theorem c6I_RingBack {w : World} {A : Option Addr} {n c : Nat} {l : List Int} (h : Rw w A n c l) : Calls Tryd.prog 29 #[.slice A n c] w fun e w' => ∃ v, e = .returned (.tuple #[v, .bool (ringB l)]) ∧ NewR w' v (backR l) ∧ Below w.heap.size w w' :=
  (bkI_any A n c w.heap.size l  w h.rd (Nat.le_refl _) h.big h.2.1 h.2.2.1).mono fun _ _ ⟨v, e1, ho, hb⟩ => ⟨v, e1, ho.newR (backR_length l), hb⟩
theorem cI_WeavePart {w : World} {A : Option Addr} {n c : Nat} {l : List Int} (h : Rw w A n c l) (x : Int) (hT : Tab w) : Calls Tryd.prog 23 #[.slice A n c, .int .i64 x] w fun e w' => ∃ v, e = .returned (.tuple #[v, .bool (wpB l x)]) ∧ NewG w' v (wpR l x) ∧ Below w.heap.size w w' :=
  (wpI_any A n c w.heap.size l x w h.rd (Nat.le_refl _) h.big h.2.1 h.2.2.1 hT).mono fun _ _ ⟨v, e1, ho, hb⟩ => ⟨v, e1, ho.newG (wpR_length l x), hb⟩
theorem cS_WeavePart {w : World} {A : Option Addr} {n c : Nat} {l : List Int} (h : Rw w A n c l) (x : Int) : Calls Tryd.prog 24 #[.slice A n c, .int .i64 x] w fun e w' => ∃ v, e = .returned (.tuple #[v, .bool (wpB l x)]) ∧ NewR w' v (wpR l x) ∧ Below w.heap.size w w' :=
  (wpS_any A n c w.heap.size l x w h.rd (Nat.le_refl _) h.big).mono fun _ _ ⟨v, e1, ho, hb⟩ => ⟨v, e1, ho.newR (wpR_length l x), hb⟩
end Go.Proofs.YtpfdlgofkcpglaaDoor
