/-
  NARROWER THAN 'FOR EVERY INPUT', by the rows' own cells (each row's printed sentence says how): ModelTells: loops · ModelEither: loops · ModelBound: loops · RulesTells: loops.
  DERIVED. THE GIVEN ROWS OF THIS SEAT. 4 by the template 'for every input the law returns true; each argument reads behind the call as it read before'; 0 by the template 'total and deterministic' (their statements: YtfnkjadfepoicacTotals.lean).
  GIVEN WITH THE SEED: the statements are not yours to turn. If you find one false, say at which input.
  Laid BY PROGRAM, IN A SANDBOX (cutbox-rows.mjs): the forced cells as the released guide's own fill.sh prints them over the translation 29d83df77bdfbe7b… (all of the seat's roots in one cut). By AI agents, Wed Nov 11 2026. No macro, syntax, notation, axiom, sorry.
-/
import Derived.Test.YtfnkjadfepoicacChecked
import GoSem.Claim
import GoSem.ClaimJoined
import GoSem.ClaimMapViews
import Derived.JoinedTies
import Derived.KernelRfl
namespace Go.Proofs.Ytfnkjadfepoicac
/- THE CELL 'sum', in the pinned program and in every row, IS THE sha256 OF THE DUMP (.gsa) THAT YtfnkjadfepoicacProg.lean LOADS. Nothing in Lean hashes anything: it is a label: what it is worth is what the hold of that sum in a sandbox is worth. -/
noncomputable def Try.pinned : Pinned := { name := "ytfnkjadfepoicac", sum := "29d83df77bdfbe7b9e4b778c49997300a3d2c98f283947033b1a58da2d973d53", checked := Try.checked }
namespace Rows
def none {H : Type} : Left H := { results := [], args := [] }

/-- 'mplaw5.ModelTells': WHATEVER THE INPUT: true; the input reads as it did. -/
def modelTellsSpec : ChangeSpec := { name := "modelTells", fn := fun _ => fun
  | [d1, d2, d3, d4] => { results := [.lit (.bool true)], args := [d1, d2, d3, d4] }
  | _ => none }
def modelTellsRow : OpenClaim := { program := "ytfnkjadfepoicac", sum := "29d83df77bdfbe7b9e4b778c49997300a3d2c98f283947033b1a58da2d973d53", func := "mendproof/mplaw5.ModelTells", spec := "modelTells", unfollowed := true, recurses := true, loops := true, apart := false }
def ModelTellsSaid : Prop := modelTellsRow.holds Try.pinned (OpenSpec.ofChange modelTellsSpec)

/-- ITS FALSE NEIGHBOUR: 'it returns false'. Refute it at one input. -/
def modelTellsWrong : ChangeSpec := { name := "modelTells", fn := fun _ => fun
  | [d1, d2, d3, d4] => { results := [.lit (.bool false)], args := [d1, d2, d3, d4] }
  | _ => none }
def ModelTellsWrongFalsely : Prop := modelTellsRow.holds Try.pinned (OpenSpec.ofChange modelTellsWrong)

/-- 'mplaw5.ModelEither': WHATEVER THE INPUT: true; the input reads as it did. -/
def modelEitherSpec : ChangeSpec := { name := "modelEither", fn := fun _ => fun
  | [d1, d2, d3] => { results := [.lit (.bool true)], args := [d1, d2, d3] }
  | _ => none }
def modelEitherRow : OpenClaim := { program := "ytfnkjadfepoicac", sum := "29d83df77bdfbe7b9e4b778c49997300a3d2c98f283947033b1a58da2d973d53", func := "mendproof/mplaw5.ModelEither", spec := "modelEither", unfollowed := true, recurses := true, loops := true, apart := false }
def ModelEitherSaid : Prop := modelEitherRow.holds Try.pinned (OpenSpec.ofChange modelEitherSpec)

/-- ITS FALSE NEIGHBOUR: 'it returns false'. Refute it at one input. -/
def modelEitherWrong : ChangeSpec := { name := "modelEither", fn := fun _ => fun
  | [d1, d2, d3] => { results := [.lit (.bool false)], args := [d1, d2, d3] }
  | _ => none }
def ModelEitherWrongFalsely : Prop := modelEitherRow.holds Try.pinned (OpenSpec.ofChange modelEitherWrong)

/-- 'mplaw5.ModelBound': WHATEVER THE INPUT: true; the input reads as it did. -/
def modelBoundSpec : ChangeSpec := { name := "modelBound", fn := fun _ => fun
  | [d1, d2, d3, d4, d5] => { results := [.lit (.bool true)], args := [d1, d2, d3, d4, d5] }
  | _ => none }
def modelBoundRow : OpenClaim := { program := "ytfnkjadfepoicac", sum := "29d83df77bdfbe7b9e4b778c49997300a3d2c98f283947033b1a58da2d973d53", func := "mendproof/mplaw5.ModelBound", spec := "modelBound", unfollowed := true, recurses := true, loops := true, apart := false }
def ModelBoundSaid : Prop := modelBoundRow.holds Try.pinned (OpenSpec.ofChange modelBoundSpec)

/-- ITS FALSE NEIGHBOUR: 'it returns false'. Refute it at one input. -/
def modelBoundWrong : ChangeSpec := { name := "modelBound", fn := fun _ => fun
  | [d1, d2, d3, d4, d5] => { results := [.lit (.bool false)], args := [d1, d2, d3, d4, d5] }
  | _ => none }
def ModelBoundWrongFalsely : Prop := modelBoundRow.holds Try.pinned (OpenSpec.ofChange modelBoundWrong)

/-- 'mplaw6.RulesTells': WHATEVER THE INPUT: true; the input reads as it did. -/
def rulesTellsSpec : ChangeSpec := { name := "rulesTells", fn := fun _ => fun
  | [d1, d2, d3] => { results := [.lit (.bool true)], args := [d1, d2, d3] }
  | _ => none }
def rulesTellsRow : OpenClaim := { program := "ytfnkjadfepoicac", sum := "29d83df77bdfbe7b9e4b778c49997300a3d2c98f283947033b1a58da2d973d53", func := "mendproof/mplaw6.RulesTells", spec := "rulesTells", unfollowed := true, recurses := true, loops := true, apart := false }
def RulesTellsSaid : Prop := rulesTellsRow.holds Try.pinned (OpenSpec.ofChange rulesTellsSpec)

/-- ITS FALSE NEIGHBOUR: 'it returns false'. Refute it at one input. -/
def rulesTellsWrong : ChangeSpec := { name := "rulesTells", fn := fun _ => fun
  | [d1, d2, d3] => { results := [.lit (.bool false)], args := [d1, d2, d3] }
  | _ => none }
def RulesTellsWrongFalsely : Prop := rulesTellsRow.holds Try.pinned (OpenSpec.ofChange rulesTellsWrong)

/- THE SECOND FORM. 'bulk': how many values and letters a reading holds, each counted each time it is reached (what is shared counts as often as it is met; a slice's spare places count too). A statement '..UptoSaid' is the law's where the arguments, and the package variables that the reading takes, are together of bulk at most 1048576: NARROWER than '..Said'. Prove '..Said' where nothing that the law and all that it calls make is longer than what came in: it says more and counts as full. Else prove '..UptoSaid'. A law counts once. -/
mutual
def uptoBulk {H : Type} : DataW H → Nat
  | .lit (.string bytes) => bytes.length + 1
  | .lit _ => 1
  | .nil => 1
  | .ptr d => uptoBulk d + 1
  | .slice elems spare => uptoBulkAll elems + uptoBulkAll spare + 1
  | .agg parts => uptoBulkAll parts + 1
  | .iface _ d => uptoBulk d + 1
  | .map entries => uptoBulkEntries entries + 1
  | .held _ => 1
def uptoBulkAll {H : Type} : List (DataW H) → Nat
  | [] => 0
  | d :: r => uptoBulk d + uptoBulkAll r
def uptoBulkEntries {H : Type} : List (Lit × DataW H) → Nat
  | [] => 0
  | x :: r => uptoBulkEntry x + uptoBulkEntries r
def uptoBulkEntry {H : Type} : Lit × DataW H → Nat
  | (.string bytes, d) => bytes.length + uptoBulk d + 1
  | (_, d) => uptoBulk d + 1
 end
def uptoSmall : (H : Type) → List (DataW H) → Bool := fun _ ds => decide (uptoBulkAll ds ≤ 1048576)
def OpenSpec.upto (s : _root_.Go.ChangeSpec) : _root_.Go.OpenSpec := { _root_.Go.OpenSpec.ofChange s with cond := some uptoSmall }

/-- 'mplaw5.ModelTells', WHERE WHAT IT READS IS OF BULK AT MOST 1048576: true; the input reads as it did. -/
def modelTellsUptoRow : OpenClaim := { program := "ytfnkjadfepoicac", sum := "29d83df77bdfbe7b9e4b778c49997300a3d2c98f283947033b1a58da2d973d53", func := "mendproof/mplaw5.ModelTells", spec := "modelTells", unfollowed := true, recurses := true, loops := true, apart := false, narrowed := true }
def ModelTellsUptoSaid : Prop := modelTellsUptoRow.holds Try.pinned (OpenSpec.upto modelTellsSpec)

/-- 'mplaw5.ModelEither', WHERE WHAT IT READS IS OF BULK AT MOST 1048576: true; the input reads as it did. -/
def modelEitherUptoRow : OpenClaim := { program := "ytfnkjadfepoicac", sum := "29d83df77bdfbe7b9e4b778c49997300a3d2c98f283947033b1a58da2d973d53", func := "mendproof/mplaw5.ModelEither", spec := "modelEither", unfollowed := true, recurses := true, loops := true, apart := false, narrowed := true }
def ModelEitherUptoSaid : Prop := modelEitherUptoRow.holds Try.pinned (OpenSpec.upto modelEitherSpec)

/-- 'mplaw5.ModelBound', WHERE WHAT IT READS IS OF BULK AT MOST 1048576: true; the input reads as it did. -/
def modelBoundUptoRow : OpenClaim := { program := "ytfnkjadfepoicac", sum := "29d83df77bdfbe7b9e4b778c49997300a3d2c98f283947033b1a58da2d973d53", func := "mendproof/mplaw5.ModelBound", spec := "modelBound", unfollowed := true, recurses := true, loops := true, apart := false, narrowed := true }
def ModelBoundUptoSaid : Prop := modelBoundUptoRow.holds Try.pinned (OpenSpec.upto modelBoundSpec)

/-- 'mplaw6.RulesTells', WHERE WHAT IT READS IS OF BULK AT MOST 1048576: true; the input reads as it did. -/
def rulesTellsUptoRow : OpenClaim := { program := "ytfnkjadfepoicac", sum := "29d83df77bdfbe7b9e4b778c49997300a3d2c98f283947033b1a58da2d973d53", func := "mendproof/mplaw6.RulesTells", spec := "rulesTells", unfollowed := true, recurses := true, loops := true, apart := false, narrowed := true }
def RulesTellsUptoSaid : Prop := rulesTellsUptoRow.holds Try.pinned (OpenSpec.upto rulesTellsSpec)

end Rows
end Go.Proofs.Ytfnkjadfepoicac
