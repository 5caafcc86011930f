/- Proved: a right clause holds of a model just where it does as it is kept, what always holds does, and kept again it is as it is: mplaw4.ClauseNorm answers true for every input that can be read, at the landed code. Its conditions: the row's own (finite readings, sizes within reach; package tables start as the program's text lays them, tied by the card). -/
import Derived.Test.YtfckelbdageenabGreatDoorG29
import Derived.Test.YtfckelbdageenabGreatDoorG30
import Derived.Test.YtfckelbdageenabGreatDoorTie
import Derived.Test.YtfckelbdageenabGreatDoorCards
import Derived.SevenTiedAt
namespace Go.Proofs.YtfckelbdageenabGreatDoor
open Go.ChangeMaps Go.ChangeShapes Go.WideShapes Go.ChangeAt Go.WideMaps Go.WideElems Go.RowKit Go.Deep Go.Joins

theorem plain4N (f : FuncId) (fn : Func) (hf : Tryz.pinned.checked.prog.funcNamed Rows.clauseNormRow.func = some f) (hfn : Tryz.pinned.checked.prog.funcs[f]? = some fn) :
    false = Tryz.pinned.checked.prog.looks [] ∧ ∀ (j : Nat) t, fn.params[j]? = some t → Tryz.pinned.checked.prog.wantsStandIn t = false := by
  obtain rfl : f = 5 := Option.some.inj ((show Tryz.prog.funcNamed Rows.clauseNormRow.func = some 5 by kernel_rfl).symm.trans hf) |>.symm
  obtain rfl : fn = Tryz.f5 := (Option.some.inj (Tryz.func5.symm.trans hfn)).symm
  refine ⟨by kernel_rfl, fun j t ht => ?_⟩
  rw [Tryz.params5] at ht
  have hm : t ∈ [23, 25, 57] := by simpa using Array.mem_of_getElem? ht
  have hall : ([23, 25, 57].all fun u => !Tryz.prog.wantsStandIn u) = true := by kernel_rfl
  exact (show Tryz.prog.wantsStandIn t = false by simpa using List.all_eq_true.1 hall t hm)

theorem clauseNorm_card : Rows.ClauseNormCardSaid :=
  Claim7.holds_tied_plain_at .later [] _ _ _ _ (said4N alive4_any) (fun _ h => by cases h) (by kernel_rfl) (fun _ h => by cases h) clauseNorm_row_tie rfl ⟨rfl, rfl⟩ (by kernel_rfl) rfl plain4N (by kernel_rfl)
#print axioms clauseNorm_card
end Go.Proofs.YtfckelbdageenabGreatDoor

