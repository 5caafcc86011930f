/-
  DERIVED. GIVEN WITH THE SEED: THE CARDS: each row of YtegdfnfengnjlaaDoorRows.lean that lists a variable, with what it lists TIED to the program's text (the seventh form; the later family's looks); each row that meets fmt, with fmt's text TOLD by the authors' own Lean function (tested against real Go, not proved from fmt's source: count such statements apart). THE CARD IS WHAT COUNTS. Prove the row's statement (the work); the ties are given (YtegdfnfengnjlaaDoorTie.lean); close each card by the builder's one call (the guide's Derived/Test/ToyasCard.lean, 'card_holds'). Laid BY PROGRAM, IN A SANDBOX (cutbox-door.mjs). By AI agents, Wed Nov 11 2026. No macro, syntax, notation, axiom, sorry.
-/
import Derived.Test.YtegdfnfengnjlaaDoorRows
import GoSem.ClaimSeven
namespace Go.Proofs.YtegdfnfengnjlaaDoor
namespace Rows

/-- THE TIED CARD OF 'mplaw1.TermTells'. -/
def termTellsCard : Claim7 := { stood := { row := termTellsRow, standIns := [], harness := (true, "a15ce8ae9f883e8873c7171226f6520e11cf5d9ac7981eb486d1bc60dbeb1235"), looks := false }, kinds := [], alts := [], laidByText := true, laidKinds := [.data, .data, .data], laidTests := true, laidLooks := .later }
def TermTellsCardSaid : Prop := Claim7.holds Tryd.pinned (.plain (OpenSpec.ofChange termTellsSpec)) termTellsCard

/-- THE TIED CARD OF 'mplaw1.TermTurns'. -/
def termTurnsCard : Claim7 := { stood := { row := termTurnsRow, standIns := [], harness := (true, "a15ce8ae9f883e8873c7171226f6520e11cf5d9ac7981eb486d1bc60dbeb1235"), looks := false }, kinds := [], alts := [], laidByText := true, laidKinds := [.data, .data, .data], laidTests := true, laidLooks := .later }
def TermTurnsCardSaid : Prop := Claim7.holds Tryd.pinned (.plain (OpenSpec.ofChange termTurnsSpec)) termTurnsCard

/-- THE TIED CARD OF 'mplaw1.TermPut'. -/
def termPutCard : Claim7 := { stood := { row := termPutRow, standIns := [], harness := (true, "a15ce8ae9f883e8873c7171226f6520e11cf5d9ac7981eb486d1bc60dbeb1235"), looks := false }, kinds := [], alts := [], laidByText := true, laidKinds := [.data, .data, .data], laidTests := true, laidLooks := .later }
def TermPutCardSaid : Prop := Claim7.holds Tryd.pinned (.plain (OpenSpec.ofChange termPutSpec)) termPutCard

/-- THE SECOND FORM's CARD OF 'mplaw1.TermTells'. -/
def termTellsUptoCard : Claim7 := { stood := { row := termTellsUptoRow, standIns := [], harness := (true, "a15ce8ae9f883e8873c7171226f6520e11cf5d9ac7981eb486d1bc60dbeb1235"), looks := false }, kinds := [], alts := [], laidByText := true, laidKinds := [.data, .data, .data], laidTests := true, laidLooks := .later }
def TermTellsUptoCardSaid : Prop := Claim7.holds Tryd.pinned (.plain (OpenSpec.upto termTellsSpec)) termTellsUptoCard

/-- THE SECOND FORM's CARD OF 'mplaw1.TermTurns'. -/
def termTurnsUptoCard : Claim7 := { stood := { row := termTurnsUptoRow, standIns := [], harness := (true, "a15ce8ae9f883e8873c7171226f6520e11cf5d9ac7981eb486d1bc60dbeb1235"), looks := false }, kinds := [], alts := [], laidByText := true, laidKinds := [.data, .data, .data], laidTests := true, laidLooks := .later }
def TermTurnsUptoCardSaid : Prop := Claim7.holds Tryd.pinned (.plain (OpenSpec.upto termTurnsSpec)) termTurnsUptoCard

/-- THE SECOND FORM's CARD OF 'mplaw1.TermPut'. -/
def termPutUptoCard : Claim7 := { stood := { row := termPutUptoRow, standIns := [], harness := (true, "a15ce8ae9f883e8873c7171226f6520e11cf5d9ac7981eb486d1bc60dbeb1235"), looks := false }, kinds := [], alts := [], laidByText := true, laidKinds := [.data, .data, .data], laidTests := true, laidLooks := .later }
def TermPutUptoCardSaid : Prop := Claim7.holds Tryd.pinned (.plain (OpenSpec.upto termPutSpec)) termPutUptoCard
end Rows
end Go.Proofs.YtegdfnfengnjlaaDoor
