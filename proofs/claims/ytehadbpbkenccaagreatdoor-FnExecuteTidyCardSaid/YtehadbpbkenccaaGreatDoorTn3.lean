/- How deep a term is: the program's and the model's. -/
import Derived.Test.YtehadbpbkenccaaGreatDoorTn1
namespace Go.Proofs.YtehadbpbkenccaaGreatDoor
open Go.ChangeShapes Go.WideShapes Go.ChangeAt Go.RowKit

/-- A number is handed back. -/
def DepQ (d : Nat) (w : World) (e : Ending) (w' : World) : Prop := e = .returned (.int .i64 (d : Int)) ∧ Below w.heap.size w w'
theorem dep_take (ts : List Tm) (k : Nat) (h : k < ts.length) : Tm.deps (ts.take (k + 1)) = max (Tm.deps (ts.take k)) ts[k].dep := by rw [take_snocT ts k h, deps_snoc]
theorem deps_take_le (ts : List Tm) (k : Nat) : Tm.deps (ts.take k) ≤ Tm.lens ts := Nat.le_trans (deps_le _) (lens_take ts k)

/-! ### What a type switch finds -/
theorem ta_ls (x : Int) (w : World) : (Instr.typeAssert (.iface 154 (.int .u8 x)) 29 74 true).run Tryz.prog w = .ok (.tuple #[.agg #[.nilIface], .bool false]) w := by kernel_rfl
theorem ta_lb (x : Int) (w : World) : (Instr.typeAssert (.iface 154 (.int .u8 x)) 29 76 true).run Tryz.prog w = .ok (.tuple #[.slice none 0 0, .bool false]) w := by kernel_rfl
theorem ta_ss (u : Value) (w : World) : (Instr.typeAssert (.iface 74 (.agg #[u])) 29 74 true).run Tryz.prog w = .ok (.tuple #[.agg #[u], .bool true]) w := by kernel_rfl
theorem ta_bs (a : Option Addr) (n c : Nat) (w : World) : (Instr.typeAssert (.iface 76 (.slice a n c)) 29 74 true).run Tryz.prog w = .ok (.tuple #[.agg #[.nilIface], .bool false]) w := by kernel_rfl
theorem ta_bb (a : Option Addr) (n c : Nat) (w : World) : (Instr.typeAssert (.iface 76 (.slice a n c)) 29 76 true).run Tryz.prog w = .ok (.tuple #[.slice a n c, .bool true]) w := by kernel_rfl

theorem dep_kids (t : Tm) (hok : t.ok) : t.dep = Tm.deps t.kids + if t.sig = 40 then 1 else 0 := by
  cases t with
  | L c =>
    rw [Tm.ok] at hok
    have : c ≠ 40 := fun e => by subst e; exact absurd hok (by decide)
    simp [Tm.dep, Tm.kids, Tm.deps, Tm.sig, this]
  | S t => simp [Tm.dep, Tm.kids, Tm.deps, Tm.sig]
  | B ts => simp [Tm.dep, Tm.kids, Tm.sig]
theorem kids_lens (t : Tm) : Tm.lens t.kids < t.len := by cases t <;> simp [Tm.kids, Tm.lens, Tm.len] <;> omega
theorem kids_ok (t : Tm) (hok : t.ok) : Tm.oks t.kids := by
  cases t with
  | L c => simp [Tm.kids, Tm.oks]
  | S t => rw [Tm.ok] at hok; simp [Tm.kids, Tm.oks, hok]
  | B ts => rw [Tm.ok] at hok; exact hok.2
end Go.Proofs.YtehadbpbkenccaaGreatDoor
