/-
  No cell of these rows narrows 'for every input' (looked for: loops, veiled, ifaces, maps, wideKeys, modest, calm, conditions, laid).
  DERIVED. THE GIVEN ROWS OF THIS SEAT. 5 by the template 'for every input the law returns true; each argument reads behind the call as it read before'; 0 by the template 'total and deterministic' (their statements: YtepigofpcjmddaaTotals.lean).
  GIVEN WITH THE SEED: the statements are not yours to turn. If you find one false, say at which input.
  Laid BY PROGRAM, IN A SANDBOX (cutbox-rows.mjs): the forced cells as the released guide's own fill.sh prints them over the translation 093b69a688ceaef0… (all of the seat's roots in one cut). By AI agents, Wed Nov 11 2026. No macro, syntax, notation, axiom, sorry.
-/
import Derived.Test.YtepigofpcjmddaaChecked
import GoSem.Claim
import GoSem.ClaimJoined
import GoSem.ClaimMapViews
import Derived.JoinedTies
import Derived.KernelRfl
namespace Go.Proofs.Ytepigofpcjmddaa
/- THE CELL 'sum', in the pinned program and in every row, IS THE sha256 OF THE DUMP (.gsa) THAT YtepigofpcjmddaaProg.lean LOADS. Nothing in Lean hashes anything: it is a label: what it is worth is what the hold of that sum in a sandbox is worth. -/
noncomputable def Try.pinned : Pinned := { name := "ytepigofpcjmddaa", sum := "093b69a688ceaef0577bc6d7dfe79cc6ad8756c3994343a7319a710fe9d32c34", checked := Try.checked }
namespace Rows
def none {H : Type} : Left H := { results := [], args := [] }

/-- 'carryoverlaw04.PilePlays': WHATEVER THE INPUT: true; the input reads as it did. -/
def pilePlaysSpec : ChangeSpec := { name := "pilePlays", fn := fun _ => fun
  | [d1, d2] => { results := [.lit (.bool true)], args := [d1, d2] }
  | _ => none }
def pilePlaysRow : OpenClaim := { program := "ytepigofpcjmddaa", sum := "093b69a688ceaef0577bc6d7dfe79cc6ad8756c3994343a7319a710fe9d32c34", func := "carryover/carryoverlaw04.PilePlays", spec := "pilePlays", inPlace := ["math.Float64frombits", "math.Float64bits"], unfollowed := true, recurses := true, apart := false }
def PilePlaysSaid : Prop := pilePlaysRow.holds Try.pinned (OpenSpec.ofChange pilePlaysSpec)

/-- ITS FALSE NEIGHBOUR: 'it returns false'. Refute it at one input. -/
def pilePlaysWrong : ChangeSpec := { name := "pilePlays", fn := fun _ => fun
  | [d1, d2] => { results := [.lit (.bool false)], args := [d1, d2] }
  | _ => none }
def PilePlaysWrongFalsely : Prop := pilePlaysRow.holds Try.pinned (OpenSpec.ofChange pilePlaysWrong)

/-- 'carryoverlaw05.CellPlays': WHATEVER THE INPUT: true; the input reads as it did. -/
def cellPlaysSpec : ChangeSpec := { name := "cellPlays", fn := fun _ => fun
  | [d1, d2] => { results := [.lit (.bool true)], args := [d1, d2] }
  | _ => none }
def cellPlaysRow : OpenClaim := { program := "ytepigofpcjmddaa", sum := "093b69a688ceaef0577bc6d7dfe79cc6ad8756c3994343a7319a710fe9d32c34", func := "carryover/carryoverlaw05.CellPlays", spec := "cellPlays", inPlace := ["math.Float64frombits", "math.Float64bits"], apart := false }
def CellPlaysSaid : Prop := cellPlaysRow.holds Try.pinned (OpenSpec.ofChange cellPlaysSpec)

/-- ITS FALSE NEIGHBOUR: 'it returns false'. Refute it at one input. -/
def cellPlaysWrong : ChangeSpec := { name := "cellPlays", fn := fun _ => fun
  | [d1, d2] => { results := [.lit (.bool false)], args := [d1, d2] }
  | _ => none }
def CellPlaysWrongFalsely : Prop := cellPlaysRow.holds Try.pinned (OpenSpec.ofChange cellPlaysWrong)

/-- 'carryoverlaw05.CellVersions': WHATEVER THE INPUT: true; the input reads as it did. -/
def cellVersionsSpec : ChangeSpec := { name := "cellVersions", fn := fun _ => fun
  | [d] => { results := [.lit (.bool true)], args := [d] }
  | _ => none }
def cellVersionsRow : OpenClaim := { program := "ytepigofpcjmddaa", sum := "093b69a688ceaef0577bc6d7dfe79cc6ad8756c3994343a7319a710fe9d32c34", func := "carryover/carryoverlaw05.CellVersions", spec := "cellVersions", inPlace := ["math.Float64frombits", "math.Float64bits"], unfollowed := true, recurses := true, apart := false }
def CellVersionsSaid : Prop := cellVersionsRow.holds Try.pinned (OpenSpec.ofChange cellVersionsSpec)

/-- ITS FALSE NEIGHBOUR: 'it returns false'. Refute it at one input. -/
def cellVersionsWrong : ChangeSpec := { name := "cellVersions", fn := fun _ => fun
  | [d] => { results := [.lit (.bool false)], args := [d] }
  | _ => none }
def CellVersionsWrongFalsely : Prop := cellVersionsRow.holds Try.pinned (OpenSpec.ofChange cellVersionsWrong)

/-- 'carryoverlaw12.ValueKinds': WHATEVER THE INPUT: true; the input reads as it did. -/
def valueKindsSpec : ChangeSpec := { name := "valueKinds", fn := fun _ => fun
  | [d1, d2, d3, d4, d5, d6] => { results := [.lit (.bool true)], args := [d1, d2, d3, d4, d5, d6] }
  | _ => none }
def valueKindsRow : OpenClaim := { program := "ytepigofpcjmddaa", sum := "093b69a688ceaef0577bc6d7dfe79cc6ad8756c3994343a7319a710fe9d32c34", func := "carryover/carryoverlaw12.ValueKinds", spec := "valueKinds", inPlace := ["math.Float64frombits", "math.Float64bits"], unfollowed := true, recurses := true, apart := false }
def ValueKindsSaid : Prop := valueKindsRow.holds Try.pinned (OpenSpec.ofChange valueKindsSpec)

/-- ITS FALSE NEIGHBOUR: 'it returns false'. Refute it at one input. -/
def valueKindsWrong : ChangeSpec := { name := "valueKinds", fn := fun _ => fun
  | [d1, d2, d3, d4, d5, d6] => { results := [.lit (.bool false)], args := [d1, d2, d3, d4, d5, d6] }
  | _ => none }
def ValueKindsWrongFalsely : Prop := valueKindsRow.holds Try.pinned (OpenSpec.ofChange valueKindsWrong)

/-- 'carryoverlaw15.LaxErrors': WHATEVER THE INPUT: true; the input reads as it did. -/
def laxErrorsSpec : ChangeSpec := { name := "laxErrors", fn := fun _ => fun
  | [d1, d2, d3, d4, d5] => { results := [.lit (.bool true)], args := [d1, d2, d3, d4, d5] }
  | _ => none }
def laxErrorsRow : OpenClaim := { program := "ytepigofpcjmddaa", sum := "093b69a688ceaef0577bc6d7dfe79cc6ad8756c3994343a7319a710fe9d32c34", func := "carryover/carryoverlaw15.LaxErrors", spec := "laxErrors", inPlace := ["math.Float64frombits", "math.Float64bits"], unfollowed := true, recurses := true, apart := false }
def LaxErrorsSaid : Prop := laxErrorsRow.holds Try.pinned (OpenSpec.ofChange laxErrorsSpec)

/-- ITS FALSE NEIGHBOUR: 'it returns false'. Refute it at one input. -/
def laxErrorsWrong : ChangeSpec := { name := "laxErrors", fn := fun _ => fun
  | [d1, d2, d3, d4, d5] => { results := [.lit (.bool false)], args := [d1, d2, d3, d4, d5] }
  | _ => none }
def LaxErrorsWrongFalsely : Prop := laxErrorsRow.holds Try.pinned (OpenSpec.ofChange laxErrorsWrong)

/- THE SECOND FORM. 'bulk': how many values and letters a reading holds, each counted each time it is reached (what is shared counts as often as it is met; a slice's spare places count too). A statement '..UptoSaid' is the law's where the arguments, and the package variables that the reading takes, are together of bulk at most 1048576: NARROWER than '..Said'. Prove '..Said' where nothing that the law and all that it calls make is longer than what came in: it says more and counts as full. Else prove '..UptoSaid'. A law counts once. -/
mutual
def uptoBulk {H : Type} : DataW H → Nat
  | .lit (.string bytes) => bytes.length + 1
  | .lit _ => 1
  | .nil => 1
  | .ptr d => uptoBulk d + 1
  | .slice elems spare => uptoBulkAll elems + uptoBulkAll spare + 1
  | .agg parts => uptoBulkAll parts + 1
  | .iface _ d => uptoBulk d + 1
  | .map entries => uptoBulkEntries entries + 1
  | .held _ => 1
def uptoBulkAll {H : Type} : List (DataW H) → Nat
  | [] => 0
  | d :: r => uptoBulk d + uptoBulkAll r
def uptoBulkEntries {H : Type} : List (Lit × DataW H) → Nat
  | [] => 0
  | x :: r => uptoBulkEntry x + uptoBulkEntries r
def uptoBulkEntry {H : Type} : Lit × DataW H → Nat
  | (.string bytes, d) => bytes.length + uptoBulk d + 1
  | (_, d) => uptoBulk d + 1
 end
def uptoSmall : (H : Type) → List (DataW H) → Bool := fun _ ds => decide (uptoBulkAll ds ≤ 1048576)
def OpenSpec.upto (s : _root_.Go.ChangeSpec) : _root_.Go.OpenSpec := { _root_.Go.OpenSpec.ofChange s with cond := some uptoSmall }

/-- 'carryoverlaw04.PilePlays', WHERE WHAT IT READS IS OF BULK AT MOST 1048576: true; the input reads as it did. -/
def pilePlaysUptoRow : OpenClaim := { program := "ytepigofpcjmddaa", sum := "093b69a688ceaef0577bc6d7dfe79cc6ad8756c3994343a7319a710fe9d32c34", func := "carryover/carryoverlaw04.PilePlays", spec := "pilePlays", inPlace := ["math.Float64frombits", "math.Float64bits"], unfollowed := true, recurses := true, apart := false, narrowed := true }
def PilePlaysUptoSaid : Prop := pilePlaysUptoRow.holds Try.pinned (OpenSpec.upto pilePlaysSpec)

/-- 'carryoverlaw05.CellPlays', WHERE WHAT IT READS IS OF BULK AT MOST 1048576: true; the input reads as it did. -/
def cellPlaysUptoRow : OpenClaim := { program := "ytepigofpcjmddaa", sum := "093b69a688ceaef0577bc6d7dfe79cc6ad8756c3994343a7319a710fe9d32c34", func := "carryover/carryoverlaw05.CellPlays", spec := "cellPlays", inPlace := ["math.Float64frombits", "math.Float64bits"], apart := false, narrowed := true }
def CellPlaysUptoSaid : Prop := cellPlaysUptoRow.holds Try.pinned (OpenSpec.upto cellPlaysSpec)

/-- 'carryoverlaw05.CellVersions', WHERE WHAT IT READS IS OF BULK AT MOST 1048576: true; the input reads as it did. -/
def cellVersionsUptoRow : OpenClaim := { program := "ytepigofpcjmddaa", sum := "093b69a688ceaef0577bc6d7dfe79cc6ad8756c3994343a7319a710fe9d32c34", func := "carryover/carryoverlaw05.CellVersions", spec := "cellVersions", inPlace := ["math.Float64frombits", "math.Float64bits"], unfollowed := true, recurses := true, apart := false, narrowed := true }
def CellVersionsUptoSaid : Prop := cellVersionsUptoRow.holds Try.pinned (OpenSpec.upto cellVersionsSpec)

/-- 'carryoverlaw12.ValueKinds', WHERE WHAT IT READS IS OF BULK AT MOST 1048576: true; the input reads as it did. -/
def valueKindsUptoRow : OpenClaim := { program := "ytepigofpcjmddaa", sum := "093b69a688ceaef0577bc6d7dfe79cc6ad8756c3994343a7319a710fe9d32c34", func := "carryover/carryoverlaw12.ValueKinds", spec := "valueKinds", inPlace := ["math.Float64frombits", "math.Float64bits"], unfollowed := true, recurses := true, apart := false, narrowed := true }
def ValueKindsUptoSaid : Prop := valueKindsUptoRow.holds Try.pinned (OpenSpec.upto valueKindsSpec)

/-- 'carryoverlaw15.LaxErrors', WHERE WHAT IT READS IS OF BULK AT MOST 1048576: true; the input reads as it did. -/
def laxErrorsUptoRow : OpenClaim := { program := "ytepigofpcjmddaa", sum := "093b69a688ceaef0577bc6d7dfe79cc6ad8756c3994343a7319a710fe9d32c34", func := "carryover/carryoverlaw15.LaxErrors", spec := "laxErrors", inPlace := ["math.Float64frombits", "math.Float64bits"], unfollowed := true, recurses := true, apart := false, narrowed := true }
def LaxErrorsUptoSaid : Prop := laxErrorsUptoRow.holds Try.pinned (OpenSpec.upto laxErrorsSpec)

end Rows
end Go.Proofs.Ytepigofpcjmddaa
