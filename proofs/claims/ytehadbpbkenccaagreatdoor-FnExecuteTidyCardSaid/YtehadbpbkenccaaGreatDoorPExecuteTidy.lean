/- The law FnExecuteTidy of this seat: for every input the call returns true and its arguments read as before. -/
import Derived.Test.YtehadbpbkenccaaGreatDoorPcExecuteTidy
namespace Go.Proofs.YtehadbpbkenccaaGreatDoor.fnExecuteTidy
open Go.ChangeShapes Go.WideShapes Go.ChangeAt Go.RowKit
open Go.ChangeMaps (open_string shut_string)
set_option linter.unusedVariables false

theorem proved : Rows.FnExecuteTidyCardSaid :=
  tied_goes .later [.data, .data, .data, .data, .handle, .sentinel, .sentinel, .pinned] true (true, "ad16d3d573b7461c6f530773ff39a5f954605c4fab2b4e634bd5fbc105f8e0ba") true true
    over (by kernel_rfl) fnExecuteTidy_row_tie rfl ⟨rfl, rfl⟩ (by kernel_rfl) rfl
    (fun f fn hf hfn => by
      obtain rfl : f = 3 := Option.some.inj ((show Tryz.prog.funcNamed "loop.example/ringorders/laws.FnExecuteTidy" = some 3 by kernel_rfl).symm.trans hf) |>.symm
      obtain rfl : fn = Tryz.f3 := (Option.some.inj (Tryz.func3.symm.trans hfn)).symm
      exact ⟨by kernel_rfl, fun j t ht => by
        rw [Tryz.params3] at ht
        have hm : t ∈ [22] := by simpa using Array.mem_of_getElem? ht
        have hall : ([22].all fun u => !Tryz.prog.wantsStandIn u) = true := by kernel_rfl
        exact (show Tryz.prog.wantsStandIn t = false by simpa using List.all_eq_true.1 hall t hm)⟩)
    (by kernel_rfl)
#print axioms proved
end Go.Proofs.YtehadbpbkenccaaGreatDoor.fnExecuteTidy
