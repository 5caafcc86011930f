/- Proved: a right clause comes back from its text, and a text that is read is its clause's: mplaw4.ClauseTurns answers true for every input that can be read and whose bulk is at most 1048576, at the landed code. Its conditions: the row's own (finite readings; package tables start as the program's text lays them, tied by the card). -/
import Derived.Test.YtfckelbdageenabGreatDoorG23
import Derived.Test.YtfckelbdageenabGreatDoorG27
import Derived.Test.YtfckelbdageenabGreatDoorTie
import Derived.Test.YtfckelbdageenabGreatDoorCards
import Derived.SevenTiedAt
namespace Go.Proofs.YtfckelbdageenabGreatDoor
open Go.ChangeMaps Go.ChangeShapes Go.WideShapes Go.ChangeAt Go.WideMaps Go.WideElems Go.RowKit Go.Deep Go.Joins

theorem plain4T (f : FuncId) (fn : Func) (hf : Tryz.pinned.checked.prog.funcNamed Rows.clauseTurnsUptoRow.func = some f) (hfn : Tryz.pinned.checked.prog.funcs[f]? = some fn) :
    false = Tryz.pinned.checked.prog.looks [] ∧ ∀ (j : Nat) t, fn.params[j]? = some t → Tryz.pinned.checked.prog.wantsStandIn t = false := by
  obtain rfl : f = 4 := Option.some.inj ((show Tryz.prog.funcNamed Rows.clauseTurnsUptoRow.func = some 4 by kernel_rfl).symm.trans hf) |>.symm
  obtain rfl : fn = Tryz.f4 := (Option.some.inj (Tryz.func4.symm.trans hfn)).symm
  refine ⟨by kernel_rfl, fun j t ht => ?_⟩
  rw [Tryz.params4] at ht
  have hm : t ∈ [23, 25, 9] := by simpa using Array.mem_of_getElem? ht
  have hall : ([23, 25, 9].all fun u => !Tryz.prog.wantsStandIn u) = true := by kernel_rfl
  exact (show Tryz.prog.wantsStandIn t = false by simpa using List.all_eq_true.1 hall t hm)

theorem clauseTurnsUpto_card : Rows.ClauseTurnsUptoCardSaid :=
  Claim7.holds_tied_plain_at .later [] _ _ _ _ (said4T alive4_any) (fun _ h => by cases h) (by kernel_rfl) (fun _ h => by cases h) clauseTurnsUpto_row_tie rfl ⟨rfl, rfl⟩ (by kernel_rfl) rfl plain4T (by kernel_rfl)
#print axioms clauseTurnsUpto_card
end Go.Proofs.YtfckelbdageenabGreatDoor

