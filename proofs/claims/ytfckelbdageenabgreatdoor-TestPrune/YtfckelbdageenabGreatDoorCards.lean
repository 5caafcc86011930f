/-
  DERIVED. GIVEN WITH THE SEED: THE CARDS: each row of YtfckelbdageenabGreatDoorRows.lean that lists a variable, with what it lists TIED to the program's text (the seventh form; the later family's looks); each row that meets fmt, with fmt's text TOLD by the authors' own Lean function (tested against real Go, not proved from fmt's source: count such statements apart). THE CARD IS WHAT COUNTS. Prove the row's statement (the work); the ties are given (YtfckelbdageenabGreatDoorTie.lean); close each card by the builder's one call (the guide's Derived/Test/ToyasCard.lean, 'card_holds'). Laid BY PROGRAM, IN A SANDBOX (cutbox-door.mjs). By AI agents, Wed Nov 11 2026. No macro, syntax, notation, axiom, sorry.
-/
import Derived.Test.YtfckelbdageenabGreatDoorRows
import GoSem.ClaimSeven
namespace Go.Proofs.YtfckelbdageenabGreatDoor
namespace Rows

/-- THE TIED CARD OF 'mplaw4.ClauseTells'. -/
def clauseTellsCard : Claim7 := { stood := { row := clauseTellsRow, standIns := [], harness := (true, "350cc6fba8cf6796815a8910de47d9ff5bd525c7464b58eceb1de9ad13373285"), looks := false }, kinds := [], alts := [], laidByText := true, laidKinds := [.data, .data, .data, .data, .pinned], laidTests := true, laidLooks := .later }
def ClauseTellsCardSaid : Prop := Claim7.holds Tryz.pinned (.plain (OpenSpec.ofChange clauseTellsSpec)) clauseTellsCard

/-- THE TIED CARD OF 'mplaw4.ClauseTurns'. -/
def clauseTurnsCard : Claim7 := { stood := { row := clauseTurnsRow, standIns := [], harness := (true, "350cc6fba8cf6796815a8910de47d9ff5bd525c7464b58eceb1de9ad13373285"), looks := false }, kinds := [], alts := [], laidByText := true, laidKinds := [.data, .data, .data, .data, .pinned], laidTests := true, laidLooks := .later }
def ClauseTurnsCardSaid : Prop := Claim7.holds Tryz.pinned (.plain (OpenSpec.ofChange clauseTurnsSpec)) clauseTurnsCard

/-- THE TIED CARD OF 'mplaw4.ClauseNorm'. -/
def clauseNormCard : Claim7 := { stood := { row := clauseNormRow, standIns := [], harness := (true, "350cc6fba8cf6796815a8910de47d9ff5bd525c7464b58eceb1de9ad13373285"), looks := false }, kinds := [], alts := [], laidByText := true, laidKinds := [.data, .data, .data, .data, .pinned], laidTests := true, laidLooks := .later }
def ClauseNormCardSaid : Prop := Claim7.holds Tryz.pinned (.plain (OpenSpec.ofChange clauseNormSpec)) clauseNormCard

/-- THE SECOND FORM's CARD OF 'mplaw4.ClauseTells'. -/
def clauseTellsUptoCard : Claim7 := { stood := { row := clauseTellsUptoRow, standIns := [], harness := (true, "350cc6fba8cf6796815a8910de47d9ff5bd525c7464b58eceb1de9ad13373285"), looks := false }, kinds := [], alts := [], laidByText := true, laidKinds := [.data, .data, .data, .data, .pinned], laidTests := true, laidLooks := .later }
def ClauseTellsUptoCardSaid : Prop := Claim7.holds Tryz.pinned (.plain (OpenSpec.upto clauseTellsSpec)) clauseTellsUptoCard

/-- THE SECOND FORM's CARD OF 'mplaw4.ClauseTurns'. -/
def clauseTurnsUptoCard : Claim7 := { stood := { row := clauseTurnsUptoRow, standIns := [], harness := (true, "350cc6fba8cf6796815a8910de47d9ff5bd525c7464b58eceb1de9ad13373285"), looks := false }, kinds := [], alts := [], laidByText := true, laidKinds := [.data, .data, .data, .data, .pinned], laidTests := true, laidLooks := .later }
def ClauseTurnsUptoCardSaid : Prop := Claim7.holds Tryz.pinned (.plain (OpenSpec.upto clauseTurnsSpec)) clauseTurnsUptoCard

/-- THE SECOND FORM's CARD OF 'mplaw4.ClauseNorm'. -/
def clauseNormUptoCard : Claim7 := { stood := { row := clauseNormUptoRow, standIns := [], harness := (true, "350cc6fba8cf6796815a8910de47d9ff5bd525c7464b58eceb1de9ad13373285"), looks := false }, kinds := [], alts := [], laidByText := true, laidKinds := [.data, .data, .data, .data, .pinned], laidTests := true, laidLooks := .later }
def ClauseNormUptoCardSaid : Prop := Claim7.holds Tryz.pinned (.plain (OpenSpec.upto clauseNormSpec)) clauseNormUptoCard
end Rows
end Go.Proofs.YtfckelbdageenabGreatDoor
