/-
  DERIVED. GIVEN WITH THE SEED: THE CARDS: each row of YtleogbdinafpaaaDoorRows.lean that lists a variable, with what it lists TIED to the program's text (the seventh form; the later family's looks); each row that meets fmt, with fmt's text TOLD by the authors' own Lean function (tested against real Go, not proved from fmt's source: count such statements apart). THE CARD IS WHAT COUNTS. Prove the row's statement (the work); the ties are given (YtleogbdinafpaaaDoorTie.lean); close each card by the builder's one call (the guide's Derived/Test/ToyasCard.lean, 'card_holds'). Laid BY PROGRAM, IN A SANDBOX (cutbox-door.mjs). By AI agents, Wed Nov 11 2026. No macro, syntax, notation, axiom, sorry.
-/
import Derived.Test.YtleogbdinafpaaaDoorRows
import GoSem.ClaimSeven
namespace Go.Proofs.YtleogbdinafpaaaDoor
namespace Rows

/-- THE TIED CARD OF 'mplaw1.TermTells'. -/
def termTellsCard : Claim7 := { stood := { row := termTellsRow, standIns := [], harness := (true, "8ce83d2e1166748d0b6f1382887cc6bdc4e2d8e432d1a180e9446c0121f2538e"), looks := false }, kinds := [], alts := [], laidByText := true, laidKinds := [.data, .data, .data], laidTests := true, laidLooks := .later }
def TermTellsCardSaid : Prop := Claim7.holds Tryd.pinned (.plain (OpenSpec.ofChange termTellsSpec)) termTellsCard

/-- THE TIED CARD OF 'mplaw1.TermTurns'. -/
def termTurnsCard : Claim7 := { stood := { row := termTurnsRow, standIns := [], harness := (true, "8ce83d2e1166748d0b6f1382887cc6bdc4e2d8e432d1a180e9446c0121f2538e"), looks := false }, kinds := [], alts := [], laidByText := true, laidKinds := [.data, .data, .data], laidTests := true, laidLooks := .later }
def TermTurnsCardSaid : Prop := Claim7.holds Tryd.pinned (.plain (OpenSpec.ofChange termTurnsSpec)) termTurnsCard

/-- THE TIED CARD OF 'mplaw1.TermPut'. -/
def termPutCard : Claim7 := { stood := { row := termPutRow, standIns := [], harness := (true, "8ce83d2e1166748d0b6f1382887cc6bdc4e2d8e432d1a180e9446c0121f2538e"), looks := false }, kinds := [], alts := [], laidByText := true, laidKinds := [.data, .data, .data], laidTests := true, laidLooks := .later }
def TermPutCardSaid : Prop := Claim7.holds Tryd.pinned (.plain (OpenSpec.ofChange termPutSpec)) termPutCard

/-- THE TIED CARD OF 'mplaw2.BindUnify'. -/
def bindUnifyCard : Claim7 := { stood := { row := bindUnifyRow, standIns := [], harness := (true, "8ce83d2e1166748d0b6f1382887cc6bdc4e2d8e432d1a180e9446c0121f2538e"), looks := false }, kinds := [], alts := [], laidByText := true, laidKinds := [.data, .data, .data], laidTests := true, laidLooks := .later }
def BindUnifyCardSaid : Prop := Claim7.holds Tryd.pinned (.plain (OpenSpec.ofChange bindUnifySpec)) bindUnifyCard

/-- THE TIED CARD OF 'mplaw2.BindMatch'. -/
def bindMatchCard : Claim7 := { stood := { row := bindMatchRow, standIns := [], harness := (true, "8ce83d2e1166748d0b6f1382887cc6bdc4e2d8e432d1a180e9446c0121f2538e"), looks := false }, kinds := [], alts := [], laidByText := true, laidKinds := [.data, .data, .data], laidTests := true, laidLooks := .later }
def BindMatchCardSaid : Prop := Claim7.holds Tryd.pinned (.plain (OpenSpec.ofChange bindMatchSpec)) bindMatchCard

/-- THE SECOND FORM's CARD OF 'mplaw1.TermTells'. -/
def termTellsUptoCard : Claim7 := { stood := { row := termTellsUptoRow, standIns := [], harness := (true, "8ce83d2e1166748d0b6f1382887cc6bdc4e2d8e432d1a180e9446c0121f2538e"), looks := false }, kinds := [], alts := [], laidByText := true, laidKinds := [.data, .data, .data], laidTests := true, laidLooks := .later }
def TermTellsUptoCardSaid : Prop := Claim7.holds Tryd.pinned (.plain (OpenSpec.upto termTellsSpec)) termTellsUptoCard

/-- THE SECOND FORM's CARD OF 'mplaw1.TermTurns'. -/
def termTurnsUptoCard : Claim7 := { stood := { row := termTurnsUptoRow, standIns := [], harness := (true, "8ce83d2e1166748d0b6f1382887cc6bdc4e2d8e432d1a180e9446c0121f2538e"), looks := false }, kinds := [], alts := [], laidByText := true, laidKinds := [.data, .data, .data], laidTests := true, laidLooks := .later }
def TermTurnsUptoCardSaid : Prop := Claim7.holds Tryd.pinned (.plain (OpenSpec.upto termTurnsSpec)) termTurnsUptoCard

/-- THE SECOND FORM's CARD OF 'mplaw1.TermPut'. -/
def termPutUptoCard : Claim7 := { stood := { row := termPutUptoRow, standIns := [], harness := (true, "8ce83d2e1166748d0b6f1382887cc6bdc4e2d8e432d1a180e9446c0121f2538e"), looks := false }, kinds := [], alts := [], laidByText := true, laidKinds := [.data, .data, .data], laidTests := true, laidLooks := .later }
def TermPutUptoCardSaid : Prop := Claim7.holds Tryd.pinned (.plain (OpenSpec.upto termPutSpec)) termPutUptoCard

/-- THE SECOND FORM's CARD OF 'mplaw2.BindUnify'. -/
def bindUnifyUptoCard : Claim7 := { stood := { row := bindUnifyUptoRow, standIns := [], harness := (true, "8ce83d2e1166748d0b6f1382887cc6bdc4e2d8e432d1a180e9446c0121f2538e"), looks := false }, kinds := [], alts := [], laidByText := true, laidKinds := [.data, .data, .data], laidTests := true, laidLooks := .later }
def BindUnifyUptoCardSaid : Prop := Claim7.holds Tryd.pinned (.plain (OpenSpec.upto bindUnifySpec)) bindUnifyUptoCard

/-- THE SECOND FORM's CARD OF 'mplaw2.BindMatch'. -/
def bindMatchUptoCard : Claim7 := { stood := { row := bindMatchUptoRow, standIns := [], harness := (true, "8ce83d2e1166748d0b6f1382887cc6bdc4e2d8e432d1a180e9446c0121f2538e"), looks := false }, kinds := [], alts := [], laidByText := true, laidKinds := [.data, .data, .data], laidTests := true, laidLooks := .later }
def BindMatchUptoCardSaid : Prop := Claim7.holds Tryd.pinned (.plain (OpenSpec.upto bindMatchSpec)) bindMatchUptoCard
end Rows
end Go.Proofs.YtleogbdinafpaaaDoor
