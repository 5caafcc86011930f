/- Proved: SameLit, Same, Vars, Wrong, Apply, Rename, Norm, Text and Parse tell what any right clause is as the document's answer tells it: mplaw4.ClauseTells answers true for every input that can be read and whose bulk is at most 1048576, at the landed code. Its conditions: the row's own (finite readings; package tables start as the program's text lays them, tied by the card). -/
import Derived.Test.YtfckelbdageenabGreatDoorG19
import Derived.Test.YtfckelbdageenabGreatDoorTie
import Derived.Test.YtfckelbdageenabGreatDoorCards
import Derived.SevenTiedAt
namespace Go.Proofs.YtfckelbdageenabGreatDoor
open Go.ChangeMaps Go.ChangeShapes Go.WideShapes Go.ChangeAt Go.WideMaps Go.WideElems Go.RowKit Go.Deep Go.Joins

theorem plain4L (f : FuncId) (fn : Func) (hf : Tryz.pinned.checked.prog.funcNamed Rows.clauseTellsUptoRow.func = some f) (hfn : Tryz.pinned.checked.prog.funcs[f]? = some fn) :
    false = Tryz.pinned.checked.prog.looks [] ∧ ∀ (j : Nat) t, fn.params[j]? = some t → Tryz.pinned.checked.prog.wantsStandIn t = false := by
  obtain rfl : f = 3 := Option.some.inj ((show Tryz.prog.funcNamed Rows.clauseTellsUptoRow.func = some 3 by kernel_rfl).symm.trans hf) |>.symm
  obtain rfl : fn = Tryz.f3 := (Option.some.inj (Tryz.func3.symm.trans hfn)).symm
  refine ⟨by kernel_rfl, fun j t ht => ?_⟩
  rw [Tryz.params3] at ht
  have hm : t ∈ [23, 25, 25, 27, 3, 9] := by simpa using Array.mem_of_getElem? ht
  have hall : ([23, 25, 25, 27, 3, 9].all fun u => !Tryz.prog.wantsStandIn u) = true := by kernel_rfl
  exact (show Tryz.prog.wantsStandIn t = false by simpa using List.all_eq_true.1 hall t hm)

theorem clauseTellsUpto_card : Rows.ClauseTellsUptoCardSaid :=
  Claim7.holds_tied_plain_at .later [] _ _ _ _ said4L (fun _ h => by cases h) (by kernel_rfl) (fun _ h => by cases h) clauseTellsUpto_row_tie rfl ⟨rfl, rfl⟩ (by kernel_rfl) rfl plain4L (by kernel_rfl)
#print axioms clauseTellsUpto_card
end Go.Proofs.YtfckelbdageenabGreatDoor
