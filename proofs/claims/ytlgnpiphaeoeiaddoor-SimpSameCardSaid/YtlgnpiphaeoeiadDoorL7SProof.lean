/- Proved: of whatever model units hold, a clause holds just where it does as they make it; no term of it is more than it was. Its conditions: the row's own (finite readings; package tables start as the program's text lays them, tied by the card). -/
import Derived.Test.YtlgnpiphaeoeiadDoorG23
import Derived.Test.YtlgnpiphaeoeiadDoorTie
import Derived.Test.YtlgnpiphaeoeiadDoorCards
import Derived.SevenTiedAt
namespace Go.Proofs.YtlgnpiphaeoeiadDoor
open Go.ChangeMaps Go.ChangeShapes Go.WideShapes Go.ChangeAt Go.WideMaps Go.WideElems Go.RowKit Go.Deep Go.Joins
theorem plain7S (f : FuncId) (fn : Func) (hf : Tryd.pinned.checked.prog.funcNamed Rows.simpSameRow.func = some f) (hfn : Tryd.pinned.checked.prog.funcs[f]? = some fn) :
    false = Tryd.pinned.checked.prog.looks [] ∧ ∀ (j : Nat) t, fn.params[j]? = some t → Tryd.pinned.checked.prog.wantsStandIn t = false := by
  obtain rfl : f = 3 := Option.some.inj ((show Tryd.prog.funcNamed Rows.simpSameRow.func = some 3 by kernel_rfl).symm.trans hf) |>.symm
  obtain rfl : fn = Tryd.f3 := (Option.some.inj (Tryd.func3.symm.trans hfn)).symm
  refine ⟨by kernel_rfl, fun j t ht => ?_⟩
  rw [Tryd.params3] at ht
  have hm : t ∈ [23, 25, 26, 29] := by simpa using Array.mem_of_getElem? ht
  have hall : ([23, 25, 26, 29].all fun u => !Tryd.prog.wantsStandIn u) = true := by kernel_rfl
  exact (show Tryd.prog.wantsStandIn t = false by simpa using List.all_eq_true.1 hall t hm)
theorem simpSame_card : Rows.SimpSameCardSaid :=
  Claim7.holds_tied_plain_at .later [] _ _ _ _ said7S (fun _ h => by cases h) (by kernel_rfl) (fun _ h => by cases h) simpSame_row_tie rfl ⟨rfl, rfl⟩ (by kernel_rfl) rfl plain7S (by kernel_rfl)
#print axioms simpSame_card
end Go.Proofs.YtlgnpiphaeoeiadDoor
