/- The contracts of the chapter of windings over rows at hand. -/
import Derived.Test.YtbfdbnminjhocaaLaw0
import Derived.Test.YtbfdbnminjhocaaWofT
import Derived.Test.YtbfdbnminjhocaaWcnt
import Derived.Test.YtbfdbnminjhocaaWmst
import Derived.Test.YtbfdbnminjhocaaWsum
import Derived.Test.YtbfdbnminjhocaaWbt
namespace Go.Proofs.Ytbfdbnminjhocaa
open Go.ChangeShapes Go.WideShapes Go.ChangeAt Go.RowKit

theorem cI_WindOf {w : World} {A : Option Addr} {n c : Nat} {l : List Int} {A' : Option Addr} {n' c' : Nat} {p : List Int} (h : Rw w A n c l) (h' : Rw w A' n' c' p) : Calls Try.prog 21 #[.slice A n c, .slice A' n' c'] w fun e w' => e = .returned (.tuple #[.int .i64 (woR l p), .bool (twoB l p)]) ∧ Below w.heap.size w w' :=
  (woI_any A n c A' n' c' w.heap.size l p w h.rd h'.rd (Nat.le_refl _) h.big h'.big h.2.1 h.2.2.1 h'.2.1 h'.2.2.1).mono fun _ _ hq => hq
theorem cI_WindPath {w : World} {A : Option Addr} {n c : Nat} {l : List Int} {A' : Option Addr} {n' c' : Nat} {p : List Int} (h : Rw w A n c l) (h' : Rw w A' n' c' p) : Calls Try.prog 32 #[.slice A n c, .slice A' n' c'] w fun e w' => ∃ v, e = .returned (.tuple #[v, .bool (twoB l p)]) ∧ NewR w' v (wpR l p) ∧ Below w.heap.size w w' :=
  (wpI_any A n c A' n' c' w.heap.size l p w h.rd h'.rd (Nat.le_refl _) h.big h'.big h.2.1 h.2.2.1 h'.2.1 h'.2.2.1).mono fun _ _ ⟨v, e1, ho, hb⟩ => ⟨v, e1, ho.newR (wpR_length l p), hb⟩
theorem cI_WindFalls {w : World} {A : Option Addr} {n c : Nat} {l : List Int} (h : Rw w A n c l) : Calls Try.prog 18 #[.slice A n c] w fun e w' => e = .returned (.tuple #[.int .i64 (wfR l), .bool (ringB l)]) ∧ Below w.heap.size w w' :=
  (wfI_any A n c w.heap.size l w h.rd (Nat.le_refl _) h.big h.2.1 h.2.2.1).mono fun _ _ hq => hq
theorem cI_WindBetween {w : World} {A : Option Addr} {n c : Nat} {l : List Int} {A' : Option Addr} {n' c' : Nat} {p : List Int} {A'' : Option Addr} {n'' c'' : Nat} {q : List Int} (h : Rw w A n c l) (h' : Rw w A' n' c' p) (h'' : Rw w A'' n'' c'' q) : Calls Try.prog 35 #[.slice A n c, .slice A' n' c', .slice A'' n'' c''] w fun e w' => e = .returned (.tuple #[.int .i64 (wbR l p q), .bool (wbB l p q)]) ∧ Below w.heap.size w w' :=
  (wbI_any A n c A' n' c' A'' n'' c'' w.heap.size l p q w h.rd h'.rd h''.rd (Nat.le_refl _) h.big h'.big h''.big h.2.1 h.2.2.1 h'.2.1 h'.2.2.1 h''.2.1 h''.2.2.1).mono fun _ _ hq => hq
theorem cI_WindMost {w : World} {A : Option Addr} {n c : Nat} {l : List Int} (h : Rw w A n c l) (x : Int) : Calls Try.prog 38 #[.slice A n c, .int .i64 x] w fun e w' => e = .returned (.tuple #[.int .i64 (wmR l x), .bool (wmB l x)]) ∧ Below w.heap.size w w' :=
  (wmI_any A n c w.heap.size l x w h.rd (Nat.le_refl _) h.big h.2.1 h.2.2.1).mono fun _ _ hq => hq
theorem cI_WindCounts (x : Int) (w : World) : Calls Try.prog 23 #[.int .i64 x] w fun e w' => ∃ v, e = .returned (.tuple #[v, .bool (wcB x)]) ∧ NewR w' v (wcR x) ∧ Below w.heap.size w w' :=
  (wcI_any x w).mono fun _ _ ⟨v, e1, ho, hb⟩ => ⟨v, e1, ho.newR (wcR_length x), hb⟩
theorem cI_WindSums (x : Int) (w : World) : Calls Try.prog 26 #[.int .i64 x] w fun e w' => ∃ v, e = .returned (.tuple #[v, .bool (wcB x)]) ∧ NewR w' v (wsR x) ∧ Below w.heap.size w w' :=
  (wsI_any x w).mono fun _ _ ⟨v, e1, ho, hb⟩ => ⟨v, e1, ho.newR (wsR_length x), hb⟩
theorem cS_WindPath {w : World} {A : Option Addr} {n c : Nat} {l : List Int} {A' : Option Addr} {n' c' : Nat} {p : List Int} (h : Rw w A n c l) (h' : Rw w A' n' c' p) : Calls Try.prog 33 #[.slice A n c, .slice A' n' c'] w fun e w' => ∃ v, e = .returned (.tuple #[v, .bool (twoB l p)]) ∧ NewR w' v (wpR l p) ∧ Below w.heap.size w w' :=
  (wpS_any A n c A' n' c' w.heap.size l p w h.rd h'.rd (Nat.le_refl _) h.big h'.big).mono fun _ _ ⟨v, e1, ho, hb⟩ => ⟨v, e1, ho.newR (wpR_length l p), hb⟩
theorem cS_WindFalls {w : World} {A : Option Addr} {n c : Nat} {l : List Int} (h : Rw w A n c l) : Calls Try.prog 19 #[.slice A n c] w fun e w' => e = .returned (.tuple #[.int .i64 (wfR l), .bool (ringB l)]) ∧ Below w.heap.size w w' :=
  (wfS_any A n c w.heap.size l w h.rd (Nat.le_refl _) h.big).mono fun _ _ hq => hq
theorem cS_WindBetween {w : World} {A : Option Addr} {n c : Nat} {l : List Int} {A' : Option Addr} {n' c' : Nat} {p : List Int} {A'' : Option Addr} {n'' c'' : Nat} {q : List Int} (h : Rw w A n c l) (h' : Rw w A' n' c' p) (h'' : Rw w A'' n'' c'' q) : Calls Try.prog 36 #[.slice A n c, .slice A' n' c', .slice A'' n'' c''] w fun e w' => e = .returned (.tuple #[.int .i64 (wbR l p q), .bool (wbB l p q)]) ∧ Below w.heap.size w w' :=
  (wbS_any A n c A' n' c' A'' n'' c'' w.heap.size l p q w h.rd h'.rd h''.rd (Nat.le_refl _) h.big h'.big h''.big).mono fun _ _ hq => hq
theorem cS_WindMost {w : World} {A : Option Addr} {n c : Nat} {l : List Int} (h : Rw w A n c l) (x : Int) : Calls Try.prog 39 #[.slice A n c, .int .i64 x] w fun e w' => e = .returned (.tuple #[.int .i64 (wmR l x), .bool (wmB l x)]) ∧ Below w.heap.size w w' :=
  (wmS_any A n c w.heap.size l x w h.rd (Nat.le_refl _) h.big).mono fun _ _ hq => hq
theorem cS_WindCounts (x : Int) (w : World) : Calls Try.prog 24 #[.int .i64 x] w fun e w' => ∃ v, e = .returned (.tuple #[v, .bool (wcB x)]) ∧ NewR w' v (wcR x) ∧ Below w.heap.size w w' :=
  (wcS_any x w).mono fun _ _ ⟨v, e1, ho, hb⟩ => ⟨v, e1, ho.newR (wcR_length x), hb⟩
theorem cS_WindSums (x : Int) (w : World) : Calls Try.prog 30 #[.int .i64 x] w fun e w' => ∃ v, e = .returned (.tuple #[v, .bool (wcB x)]) ∧ NewR w' v (wsR x) ∧ Below w.heap.size w w' :=
  (wsS_any x w).mono fun _ _ ⟨v, e1, ho, hb⟩ => ⟨v, e1, ho.newR (wsR_length x), hb⟩

/-- What the laws' adding gives. -/
def sumL (l : List Int) : Int := sumN (fun i => l.getD i 0) l.length
set_option maxHeartbeats 400000 in
theorem total_any {w : World} {A : Option Addr} {n c : Nat} {l : List Int} (h : Rw w A n c l) (hb : ∀ k, k < n → -1000000 ≤ l.getD k 0 ∧ l.getD k 0 ≤ 1000000) :
    Calls Try.prog 28 #[.slice A n c] w fun e w' => e = .returned (.int .i64 (sumL l)) ∧ Below w.heap.size w w' := by
  have hl := Lib.hid h.rd
  have hn7 := h.2.2.2
  have hln := Lib.hid h.len
  have HBD := Lib.hid hb
  clear h hb
  go_enter Try.func28, Try.ntmps28
  go_wp2
  go_loopw [3, 4] (fun s i wr => ∃ k : Nat, k ≤ n ∧ i = .int .i64 k ∧ s = .int .i64 (sumN (fun i => l.getD i 0) k) ∧ Below w.heap.size w wr) (fun _ i _ => n - (intOf i).toNat)
  case atStart => exact ⟨0, Nat.zero_le _, rfl, rfl, Below.refl _ _⟩
  case round =>
    obtain ⟨k, hk, rfl, rfl, hbl⟩ := hrel
    have hsb := sumN_bd (f := fun i => l.getD i 0) (a := -1000000) (b := 1000000) k (fun i hi => HBD.out i (by omega))
    by_cases hlt : k < n
    · obtain ⟨b, o, rfl, hbb, hcs⟩ := (hl.out.below hbl).at_ (by omega)
      have hc := hcs k hlt
      have hd := HBD.out k hlt
      have hs : Hid (sumN (fun i => l.getD i 0) k + l.getD k 0 = sumN (fun i => l.getD i 0) (k + 1)) := rfl
      clear hcs
      generalize sumN (fun i => l.getD i 0) k = s at *
      generalize l.getD k 0 = d at *
      have hw : IntKind.i64.wrap (s + d) = s + d := IntWalk.i64_in _ (by omega)
      go_wp2
      go_roundw
      case rel => exact ⟨k + 1, by omega, by go_num, by rw [hs.out], hbl⟩
      case measure => simp [intOf]; omega
    · obtain rfl : k = n := by omega
      go_wp2
      go_ret
      exact ⟨by rw [sumL, hln.out]; rfl, hbl⟩
end Go.Proofs.Ytbfdbnminjhocaa
