/- Proved: what units have made of a clause they make no simpler. Its conditions: the row's own (finite readings; package tables start as the program's text lays them, tied by the card). -/
import Derived.Test.YtlgnpiphaeoeiadDoorG22
import Derived.Test.YtlgnpiphaeoeiadDoorTie
import Derived.Test.YtlgnpiphaeoeiadDoorCards
import Derived.SevenTiedAt
namespace Go.Proofs.YtlgnpiphaeoeiadDoor
open Go.ChangeMaps Go.ChangeShapes Go.WideShapes Go.ChangeAt Go.WideMaps Go.WideElems Go.RowKit Go.Deep Go.Joins
theorem plain7E (f : FuncId) (fn : Func) (hf : Tryd.pinned.checked.prog.funcNamed Rows.simpEndRow.func = some f) (hfn : Tryd.pinned.checked.prog.funcs[f]? = some fn) :
    false = Tryd.pinned.checked.prog.looks [] ∧ ∀ (j : Nat) t, fn.params[j]? = some t → Tryd.pinned.checked.prog.wantsStandIn t = false := by
  obtain rfl : f = 4 := Option.some.inj ((show Tryd.prog.funcNamed Rows.simpEndRow.func = some 4 by kernel_rfl).symm.trans hf) |>.symm
  obtain rfl : fn = Tryd.f4 := (Option.some.inj (Tryd.func4.symm.trans hfn)).symm
  refine ⟨by kernel_rfl, fun j t ht => ?_⟩
  rw [Tryd.params4] at ht
  have hm : t ∈ [23, 25, 26] := by simpa using Array.mem_of_getElem? ht
  have hall : ([23, 25, 26].all fun u => !Tryd.prog.wantsStandIn u) = true := by kernel_rfl
  exact (show Tryd.prog.wantsStandIn t = false by simpa using List.all_eq_true.1 hall t hm)
theorem simpEnd_card : Rows.SimpEndCardSaid :=
  Claim7.holds_tied_plain_at .later [] _ _ _ _ said7E (fun _ h => by cases h) (by kernel_rfl) (fun _ h => by cases h) simpEnd_row_tie rfl ⟨rfl, rfl⟩ (by kernel_rfl) rfl plain7E (by kernel_rfl)
#print axioms simpEnd_card
end Go.Proofs.YtlgnpiphaeoeiadDoor
