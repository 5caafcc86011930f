/-
  DERIVED. GIVEN WITH THE SEED: THE CARDS: each row of YtaliegkkdhkfcacGreatDoorRows.lean that lists a variable, with what it lists TIED to the program's text (the seventh form; the later family's looks); each row that meets fmt, with fmt's text TOLD by the authors' own Lean function (tested against real Go, not proved from fmt's source: count such statements apart). THE CARD IS WHAT COUNTS. Prove the row's statement (the work); the ties are given (YtaliegkkdhkfcacGreatDoorTie.lean); close each card by the builder's one call (the guide's Derived/Test/ToyasCard.lean, 'card_holds'). Laid BY PROGRAM, IN A SANDBOX (cutbox-door.mjs). By AI agents, Wed Nov 11 2026. No macro, syntax, notation, axiom, sorry.
-/
import Derived.Test.YtaliegkkdhkfcacGreatDoorRows
import GoSem.ClaimSeven
namespace Go.Proofs.YtaliegkkdhkfcacGreatDoor
namespace Rows

/-- THE TIED CARD OF 'mplaw6.RulesHold'. -/
def rulesHoldCard : Claim7 := { stood := { row := rulesHoldRow, standIns := [], harness := (true, "6cb81aec813fa5391cb608cd08f085a71a12cdff7e70d80ea4954a24a3ac7119"), looks := false }, kinds := [], alts := [], laidByText := true, laidKinds := [.data, .data, .data], laidTests := true, laidLooks := .later }
def RulesHoldCardSaid : Prop := Claim7.holds Tryz.pinned (.plain (OpenSpec.ofChange rulesHoldSpec)) rulesHoldCard

/-- THE TIED CARD OF 'mplaw6.RulesKept'. -/
def rulesKeptCard : Claim7 := { stood := { row := rulesKeptRow, standIns := [], harness := (true, "6cb81aec813fa5391cb608cd08f085a71a12cdff7e70d80ea4954a24a3ac7119"), looks := false }, kinds := [], alts := [], laidByText := true, laidKinds := [.data, .data, .data], laidTests := true, laidLooks := .later }
def RulesKeptCardSaid : Prop := Claim7.holds Tryz.pinned (.plain (OpenSpec.ofChange rulesKeptSpec)) rulesKeptCard

/-- THE SECOND FORM's CARD OF 'mplaw6.RulesHold'. -/
def rulesHoldUptoCard : Claim7 := { stood := { row := rulesHoldUptoRow, standIns := [], harness := (true, "6cb81aec813fa5391cb608cd08f085a71a12cdff7e70d80ea4954a24a3ac7119"), looks := false }, kinds := [], alts := [], laidByText := true, laidKinds := [.data, .data, .data], laidTests := true, laidLooks := .later }
def RulesHoldUptoCardSaid : Prop := Claim7.holds Tryz.pinned (.plain (OpenSpec.upto rulesHoldSpec)) rulesHoldUptoCard

/-- THE SECOND FORM's CARD OF 'mplaw6.RulesKept'. -/
def rulesKeptUptoCard : Claim7 := { stood := { row := rulesKeptUptoRow, standIns := [], harness := (true, "6cb81aec813fa5391cb608cd08f085a71a12cdff7e70d80ea4954a24a3ac7119"), looks := false }, kinds := [], alts := [], laidByText := true, laidKinds := [.data, .data, .data], laidTests := true, laidLooks := .later }
def RulesKeptUptoCardSaid : Prop := Claim7.holds Tryz.pinned (.plain (OpenSpec.upto rulesKeptSpec)) rulesKeptUptoCard
end Rows
end Go.Proofs.YtaliegkkdhkfcacGreatDoor
