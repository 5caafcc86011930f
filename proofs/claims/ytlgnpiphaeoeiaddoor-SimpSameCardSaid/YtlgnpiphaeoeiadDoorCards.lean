/-
  DERIVED. GIVEN WITH THE SEED: THE CARDS: each row of YtlgnpiphaeoeiadDoorRows.lean that lists a variable, with what it lists TIED to the program's text (the seventh form; the later family's looks); each row that meets fmt, with fmt's text TOLD by the authors' own Lean function (tested against real Go, not proved from fmt's source: count such statements apart). THE CARD IS WHAT COUNTS. Prove the row's statement (the work); the ties are given (YtlgnpiphaeoeiadDoorTie.lean); close each card by the builder's one call (the guide's Derived/Test/ToyasCard.lean, 'card_holds'). Laid BY PROGRAM, IN A SANDBOX (cutbox-door.mjs). By AI agents, Wed Nov 11 2026. No macro, syntax, notation, axiom, sorry.
-/
import Derived.Test.YtlgnpiphaeoeiadDoorRows
import GoSem.ClaimSeven
namespace Go.Proofs.YtlgnpiphaeoeiadDoor
namespace Rows

/-- THE TIED CARD OF 'mplaw7.SimpSame'. -/
def simpSameCard : Claim7 := { stood := { row := simpSameRow, standIns := [], harness := (true, "b2c4b56e68874a41954141a83bdbe95ef8080911d8f76b51fa5073bb05015455"), looks := false }, kinds := [], alts := [], laidByText := true, laidKinds := [.data, .data, .data], laidTests := true, laidLooks := .later }
def SimpSameCardSaid : Prop := Claim7.holds Tryd.pinned (.plain (OpenSpec.ofChange simpSameSpec)) simpSameCard

/-- THE TIED CARD OF 'mplaw7.SimpEnd'. -/
def simpEndCard : Claim7 := { stood := { row := simpEndRow, standIns := [], harness := (true, "b2c4b56e68874a41954141a83bdbe95ef8080911d8f76b51fa5073bb05015455"), looks := false }, kinds := [], alts := [], laidByText := true, laidKinds := [.data, .data, .data], laidTests := true, laidLooks := .later }
def SimpEndCardSaid : Prop := Claim7.holds Tryd.pinned (.plain (OpenSpec.ofChange simpEndSpec)) simpEndCard

/-- THE TIED CARD OF 'mplaw7.SimpCovers'. -/
def simpCoversCard : Claim7 := { stood := { row := simpCoversRow, standIns := [], harness := (true, "b2c4b56e68874a41954141a83bdbe95ef8080911d8f76b51fa5073bb05015455"), looks := false }, kinds := [], alts := [], laidByText := true, laidKinds := [.data, .data, .data], laidTests := true, laidLooks := .later }
def SimpCoversCardSaid : Prop := Claim7.holds Tryd.pinned (.plain (OpenSpec.ofChange simpCoversSpec)) simpCoversCard

/-- THE SECOND FORM's CARD OF 'mplaw7.SimpSame'. -/
def simpSameUptoCard : Claim7 := { stood := { row := simpSameUptoRow, standIns := [], harness := (true, "b2c4b56e68874a41954141a83bdbe95ef8080911d8f76b51fa5073bb05015455"), looks := false }, kinds := [], alts := [], laidByText := true, laidKinds := [.data, .data, .data], laidTests := true, laidLooks := .later }
def SimpSameUptoCardSaid : Prop := Claim7.holds Tryd.pinned (.plain (OpenSpec.upto simpSameSpec)) simpSameUptoCard

/-- THE SECOND FORM's CARD OF 'mplaw7.SimpEnd'. -/
def simpEndUptoCard : Claim7 := { stood := { row := simpEndUptoRow, standIns := [], harness := (true, "b2c4b56e68874a41954141a83bdbe95ef8080911d8f76b51fa5073bb05015455"), looks := false }, kinds := [], alts := [], laidByText := true, laidKinds := [.data, .data, .data], laidTests := true, laidLooks := .later }
def SimpEndUptoCardSaid : Prop := Claim7.holds Tryd.pinned (.plain (OpenSpec.upto simpEndSpec)) simpEndUptoCard

/-- THE SECOND FORM's CARD OF 'mplaw7.SimpCovers'. -/
def simpCoversUptoCard : Claim7 := { stood := { row := simpCoversUptoRow, standIns := [], harness := (true, "b2c4b56e68874a41954141a83bdbe95ef8080911d8f76b51fa5073bb05015455"), looks := false }, kinds := [], alts := [], laidByText := true, laidKinds := [.data, .data, .data], laidTests := true, laidLooks := .later }
def SimpCoversUptoCardSaid : Prop := Claim7.holds Tryd.pinned (.plain (OpenSpec.upto simpCoversSpec)) simpCoversUptoCard
end Rows
end Go.Proofs.YtlgnpiphaeoeiadDoor
