/-
  No cell of these rows narrows 'for every input' (looked for: loops, veiled, ifaces, maps, wideKeys, modest, calm, conditions, laid).
  DERIVED. THE GIVEN ROWS OF THIS SEAT. 13 by the template 'for every input the law returns true; each argument reads behind the call as it read before'; 0 by the template 'total and deterministic' (their statements: YthhechgjablklaaTotals.lean).
  GIVEN WITH THE SEED: the statements are not yours to turn. If you find one false, say at which input.
  Laid BY PROGRAM, IN A SANDBOX (cutbox-rows.mjs): the forced cells as the released guide's own fill.sh prints them over the translation 25532d06c3b3f8fd… (all of the seat's roots in one cut). By AI agents, Wed Nov 11 2026. No macro, syntax, notation, axiom, sorry.
-/
import Derived.Test.YthhechgjablklaaChecked
import GoSem.Claim
import GoSem.ClaimJoined
import GoSem.ClaimMapViews
import Derived.JoinedTies
import Derived.KernelRfl
namespace Go.Proofs.Ythhechgjablklaa
/- THE CELL 'sum', in the pinned program and in every row, IS THE sha256 OF THE DUMP (.gsa) THAT YthhechgjablklaaProg.lean LOADS. Nothing in Lean hashes anything: it is a label: what it is worth is what the hold of that sum in a sandbox is worth. -/
noncomputable def Try.pinned : Pinned := { name := "ythhechgjablklaa", sum := "25532d06c3b3f8fdbe1d0905594ee61da1366f9e8a702c1f944bb63e53a425d2", checked := Try.checked }
namespace Rows
def none {H : Type} : Left H := { results := [], args := [] }

/-- 'carryoverlaw04.PilePlays': WHATEVER THE INPUT: true; the input reads as it did. -/
def pilePlaysSpec : ChangeSpec := { name := "pilePlays", fn := fun _ => fun
  | [d1, d2] => { results := [.lit (.bool true)], args := [d1, d2] }
  | _ => none }
def pilePlaysRow : OpenClaim := { program := "ythhechgjablklaa", sum := "25532d06c3b3f8fdbe1d0905594ee61da1366f9e8a702c1f944bb63e53a425d2", func := "carryover/carryoverlaw04.PilePlays", spec := "pilePlays", inPlace := ["math.Float64frombits", "math.Float64bits"], unfollowed := true, recurses := true, apart := false }
def PilePlaysSaid : Prop := pilePlaysRow.holds Try.pinned (OpenSpec.ofChange pilePlaysSpec)

/-- ITS FALSE NEIGHBOUR: 'it returns false'. Refute it at one input. -/
def pilePlaysWrong : ChangeSpec := { name := "pilePlays", fn := fun _ => fun
  | [d1, d2] => { results := [.lit (.bool false)], args := [d1, d2] }
  | _ => none }
def PilePlaysWrongFalsely : Prop := pilePlaysRow.holds Try.pinned (OpenSpec.ofChange pilePlaysWrong)

/-- 'carryoverlaw04.PileOrder': WHATEVER THE INPUT: true; the input reads as it did. -/
def pileOrderSpec : ChangeSpec := { name := "pileOrder", fn := fun _ => fun
  | [d1, d2, d3] => { results := [.lit (.bool true)], args := [d1, d2, d3] }
  | _ => none }
def pileOrderRow : OpenClaim := { program := "ythhechgjablklaa", sum := "25532d06c3b3f8fdbe1d0905594ee61da1366f9e8a702c1f944bb63e53a425d2", func := "carryover/carryoverlaw04.PileOrder", spec := "pileOrder", inPlace := ["math.Float64frombits", "math.Float64bits"], unfollowed := true, recurses := true, apart := false }
def PileOrderSaid : Prop := pileOrderRow.holds Try.pinned (OpenSpec.ofChange pileOrderSpec)

/-- ITS FALSE NEIGHBOUR: 'it returns false'. Refute it at one input. -/
def pileOrderWrong : ChangeSpec := { name := "pileOrder", fn := fun _ => fun
  | [d1, d2, d3] => { results := [.lit (.bool false)], args := [d1, d2, d3] }
  | _ => none }
def PileOrderWrongFalsely : Prop := pileOrderRow.holds Try.pinned (OpenSpec.ofChange pileOrderWrong)

/-- 'carryoverlaw04.PileMerge': WHATEVER THE INPUT: true; the input reads as it did. -/
def pileMergeSpec : ChangeSpec := { name := "pileMerge", fn := fun _ => fun
  | [d1, d2] => { results := [.lit (.bool true)], args := [d1, d2] }
  | _ => none }
def pileMergeRow : OpenClaim := { program := "ythhechgjablklaa", sum := "25532d06c3b3f8fdbe1d0905594ee61da1366f9e8a702c1f944bb63e53a425d2", func := "carryover/carryoverlaw04.PileMerge", spec := "pileMerge", inPlace := ["math.Float64frombits", "math.Float64bits"], unfollowed := true, recurses := true, apart := false }
def PileMergeSaid : Prop := pileMergeRow.holds Try.pinned (OpenSpec.ofChange pileMergeSpec)

/-- ITS FALSE NEIGHBOUR: 'it returns false'. Refute it at one input. -/
def pileMergeWrong : ChangeSpec := { name := "pileMerge", fn := fun _ => fun
  | [d1, d2] => { results := [.lit (.bool false)], args := [d1, d2] }
  | _ => none }
def PileMergeWrongFalsely : Prop := pileMergeRow.holds Try.pinned (OpenSpec.ofChange pileMergeWrong)

/-- 'carryoverlaw05.CellPlays': WHATEVER THE INPUT: true; the input reads as it did. -/
def cellPlaysSpec : ChangeSpec := { name := "cellPlays", fn := fun _ => fun
  | [d1, d2] => { results := [.lit (.bool true)], args := [d1, d2] }
  | _ => none }
def cellPlaysRow : OpenClaim := { program := "ythhechgjablklaa", sum := "25532d06c3b3f8fdbe1d0905594ee61da1366f9e8a702c1f944bb63e53a425d2", func := "carryover/carryoverlaw05.CellPlays", spec := "cellPlays", inPlace := ["math.Float64frombits", "math.Float64bits"], apart := false }
def CellPlaysSaid : Prop := cellPlaysRow.holds Try.pinned (OpenSpec.ofChange cellPlaysSpec)

/-- ITS FALSE NEIGHBOUR: 'it returns false'. Refute it at one input. -/
def cellPlaysWrong : ChangeSpec := { name := "cellPlays", fn := fun _ => fun
  | [d1, d2] => { results := [.lit (.bool false)], args := [d1, d2] }
  | _ => none }
def CellPlaysWrongFalsely : Prop := cellPlaysRow.holds Try.pinned (OpenSpec.ofChange cellPlaysWrong)

/-- 'carryoverlaw05.CellVersions': WHATEVER THE INPUT: true; the input reads as it did. -/
def cellVersionsSpec : ChangeSpec := { name := "cellVersions", fn := fun _ => fun
  | [d] => { results := [.lit (.bool true)], args := [d] }
  | _ => none }
def cellVersionsRow : OpenClaim := { program := "ythhechgjablklaa", sum := "25532d06c3b3f8fdbe1d0905594ee61da1366f9e8a702c1f944bb63e53a425d2", func := "carryover/carryoverlaw05.CellVersions", spec := "cellVersions", inPlace := ["math.Float64frombits", "math.Float64bits"], unfollowed := true, recurses := true, apart := false }
def CellVersionsSaid : Prop := cellVersionsRow.holds Try.pinned (OpenSpec.ofChange cellVersionsSpec)

/-- ITS FALSE NEIGHBOUR: 'it returns false'. Refute it at one input. -/
def cellVersionsWrong : ChangeSpec := { name := "cellVersions", fn := fun _ => fun
  | [d] => { results := [.lit (.bool false)], args := [d] }
  | _ => none }
def CellVersionsWrongFalsely : Prop := cellVersionsRow.holds Try.pinned (OpenSpec.ofChange cellVersionsWrong)

/-- 'carryoverlaw07.TallySteps': WHATEVER THE INPUT: true; the input reads as it did. -/
def tallyStepsSpec : ChangeSpec := { name := "tallySteps", fn := fun _ => fun
  | [d1, d2, d3] => { results := [.lit (.bool true)], args := [d1, d2, d3] }
  | _ => none }
def tallyStepsRow : OpenClaim := { program := "ythhechgjablklaa", sum := "25532d06c3b3f8fdbe1d0905594ee61da1366f9e8a702c1f944bb63e53a425d2", func := "carryover/carryoverlaw07.TallySteps", spec := "tallySteps", inPlace := ["math.Float64frombits", "math.Float64bits"], unfollowed := true, recurses := true, apart := false }
def TallyStepsSaid : Prop := tallyStepsRow.holds Try.pinned (OpenSpec.ofChange tallyStepsSpec)

/-- ITS FALSE NEIGHBOUR: 'it returns false'. Refute it at one input. -/
def tallyStepsWrong : ChangeSpec := { name := "tallySteps", fn := fun _ => fun
  | [d1, d2, d3] => { results := [.lit (.bool false)], args := [d1, d2, d3] }
  | _ => none }
def TallyStepsWrongFalsely : Prop := tallyStepsRow.holds Try.pinned (OpenSpec.ofChange tallyStepsWrong)

/-- 'carryoverlaw07.TallyAdds': WHATEVER THE INPUT: true; the input reads as it did. -/
def tallyAddsSpec : ChangeSpec := { name := "tallyAdds", fn := fun _ => fun
  | [d1, d2, d3] => { results := [.lit (.bool true)], args := [d1, d2, d3] }
  | _ => none }
def tallyAddsRow : OpenClaim := { program := "ythhechgjablklaa", sum := "25532d06c3b3f8fdbe1d0905594ee61da1366f9e8a702c1f944bb63e53a425d2", func := "carryover/carryoverlaw07.TallyAdds", spec := "tallyAdds", inPlace := ["math.Float64frombits", "math.Float64bits"], unfollowed := true, recurses := true, apart := false }
def TallyAddsSaid : Prop := tallyAddsRow.holds Try.pinned (OpenSpec.ofChange tallyAddsSpec)

/-- ITS FALSE NEIGHBOUR: 'it returns false'. Refute it at one input. -/
def tallyAddsWrong : ChangeSpec := { name := "tallyAdds", fn := fun _ => fun
  | [d1, d2, d3] => { results := [.lit (.bool false)], args := [d1, d2, d3] }
  | _ => none }
def TallyAddsWrongFalsely : Prop := tallyAddsRow.holds Try.pinned (OpenSpec.ofChange tallyAddsWrong)

/-- 'carryoverlaw07.TallyBetween': WHATEVER THE INPUT: true; the input reads as it did. -/
def tallyBetweenSpec : ChangeSpec := { name := "tallyBetween", fn := fun _ => fun
  | [d1, d2, d3] => { results := [.lit (.bool true)], args := [d1, d2, d3] }
  | _ => none }
def tallyBetweenRow : OpenClaim := { program := "ythhechgjablklaa", sum := "25532d06c3b3f8fdbe1d0905594ee61da1366f9e8a702c1f944bb63e53a425d2", func := "carryover/carryoverlaw07.TallyBetween", spec := "tallyBetween", inPlace := ["math.Float64frombits", "math.Float64bits"], unfollowed := true, recurses := true, apart := false }
def TallyBetweenSaid : Prop := tallyBetweenRow.holds Try.pinned (OpenSpec.ofChange tallyBetweenSpec)

/-- ITS FALSE NEIGHBOUR: 'it returns false'. Refute it at one input. -/
def tallyBetweenWrong : ChangeSpec := { name := "tallyBetween", fn := fun _ => fun
  | [d1, d2, d3] => { results := [.lit (.bool false)], args := [d1, d2, d3] }
  | _ => none }
def TallyBetweenWrongFalsely : Prop := tallyBetweenRow.holds Try.pinned (OpenSpec.ofChange tallyBetweenWrong)

/-- 'carryoverlaw07.TallyNew': WHATEVER THE INPUT: true; the input reads as it did. -/
def tallyNewSpec : ChangeSpec := { name := "tallyNew", fn := fun _ => fun
  | [d] => { results := [.lit (.bool true)], args := [d] }
  | _ => none }
def tallyNewRow : OpenClaim := { program := "ythhechgjablklaa", sum := "25532d06c3b3f8fdbe1d0905594ee61da1366f9e8a702c1f944bb63e53a425d2", func := "carryover/carryoverlaw07.TallyNew", spec := "tallyNew", unfollowed := true, recurses := true, apart := false }
def TallyNewSaid : Prop := tallyNewRow.holds Try.pinned (OpenSpec.ofChange tallyNewSpec)

/-- ITS FALSE NEIGHBOUR: 'it returns false'. Refute it at one input. -/
def tallyNewWrong : ChangeSpec := { name := "tallyNew", fn := fun _ => fun
  | [d] => { results := [.lit (.bool false)], args := [d] }
  | _ => none }
def TallyNewWrongFalsely : Prop := tallyNewRow.holds Try.pinned (OpenSpec.ofChange tallyNewWrong)

/-- 'carryoverlaw07.TallyAlone': WHATEVER THE INPUT: true; the input reads as it did. -/
def tallyAloneSpec : ChangeSpec := { name := "tallyAlone", fn := fun _ => fun
  | [d1, d2, d3] => { results := [.lit (.bool true)], args := [d1, d2, d3] }
  | _ => none }
def tallyAloneRow : OpenClaim := { program := "ythhechgjablklaa", sum := "25532d06c3b3f8fdbe1d0905594ee61da1366f9e8a702c1f944bb63e53a425d2", func := "carryover/carryoverlaw07.TallyAlone", spec := "tallyAlone", unfollowed := true, recurses := true, apart := false }
def TallyAloneSaid : Prop := tallyAloneRow.holds Try.pinned (OpenSpec.ofChange tallyAloneSpec)

/-- ITS FALSE NEIGHBOUR: 'it returns false'. Refute it at one input. -/
def tallyAloneWrong : ChangeSpec := { name := "tallyAlone", fn := fun _ => fun
  | [d1, d2, d3] => { results := [.lit (.bool false)], args := [d1, d2, d3] }
  | _ => none }
def TallyAloneWrongFalsely : Prop := tallyAloneRow.holds Try.pinned (OpenSpec.ofChange tallyAloneWrong)

/-- 'carryoverlaw08.MultiAlone': WHATEVER THE INPUT: true; the input reads as it did. -/
def multiAloneSpec : ChangeSpec := { name := "multiAlone", fn := fun _ => fun
  | [d1, d2] => { results := [.lit (.bool true)], args := [d1, d2] }
  | _ => none }
def multiAloneRow : OpenClaim := { program := "ythhechgjablklaa", sum := "25532d06c3b3f8fdbe1d0905594ee61da1366f9e8a702c1f944bb63e53a425d2", func := "carryover/carryoverlaw08.MultiAlone", spec := "multiAlone", inPlace := ["math.Float64frombits", "math.Float64bits"], unfollowed := true, recurses := true, apart := false }
def MultiAloneSaid : Prop := multiAloneRow.holds Try.pinned (OpenSpec.ofChange multiAloneSpec)

/-- ITS FALSE NEIGHBOUR: 'it returns false'. Refute it at one input. -/
def multiAloneWrong : ChangeSpec := { name := "multiAlone", fn := fun _ => fun
  | [d1, d2] => { results := [.lit (.bool false)], args := [d1, d2] }
  | _ => none }
def MultiAloneWrongFalsely : Prop := multiAloneRow.holds Try.pinned (OpenSpec.ofChange multiAloneWrong)

/-- 'carryoverlaw08.MultiFull': WHATEVER THE INPUT: true; the input reads as it did. -/
def multiFullSpec : ChangeSpec := { name := "multiFull", fn := fun _ => fun
  | [d1, d2] => { results := [.lit (.bool true)], args := [d1, d2] }
  | _ => none }
def multiFullRow : OpenClaim := { program := "ythhechgjablklaa", sum := "25532d06c3b3f8fdbe1d0905594ee61da1366f9e8a702c1f944bb63e53a425d2", func := "carryover/carryoverlaw08.MultiFull", spec := "multiFull", inPlace := ["math.Float64frombits"], unfollowed := true, recurses := true, apart := false }
def MultiFullSaid : Prop := multiFullRow.holds Try.pinned (OpenSpec.ofChange multiFullSpec)

/-- ITS FALSE NEIGHBOUR: 'it returns false'. Refute it at one input. -/
def multiFullWrong : ChangeSpec := { name := "multiFull", fn := fun _ => fun
  | [d1, d2] => { results := [.lit (.bool false)], args := [d1, d2] }
  | _ => none }
def MultiFullWrongFalsely : Prop := multiFullRow.holds Try.pinned (OpenSpec.ofChange multiFullWrong)

/-- 'carryovertop.CarryoverSorted': WHATEVER THE INPUT: true; the input reads as it did. -/
def carryoverSortedSpec : ChangeSpec := { name := "carryoverSorted", fn := fun _ => fun
  | [d] => { results := [.lit (.bool true)], args := [d] }
  | _ => none }
def carryoverSortedRow : OpenClaim := { program := "ythhechgjablklaa", sum := "25532d06c3b3f8fdbe1d0905594ee61da1366f9e8a702c1f944bb63e53a425d2", func := "carryover/carryovertop.CarryoverSorted", spec := "carryoverSorted", inPlace := ["math.Float64frombits", "math.Float64bits"], unfollowed := true, recurses := true, apart := false }
def CarryoverSortedSaid : Prop := carryoverSortedRow.holds Try.pinned (OpenSpec.ofChange carryoverSortedSpec)

/-- ITS FALSE NEIGHBOUR: 'it returns false'. Refute it at one input. -/
def carryoverSortedWrong : ChangeSpec := { name := "carryoverSorted", fn := fun _ => fun
  | [d] => { results := [.lit (.bool false)], args := [d] }
  | _ => none }
def CarryoverSortedWrongFalsely : Prop := carryoverSortedRow.holds Try.pinned (OpenSpec.ofChange carryoverSortedWrong)

/- THE SECOND FORM. 'bulk': how many values and letters a reading holds, each counted each time it is reached (what is shared counts as often as it is met; a slice's spare places count too). A statement '..UptoSaid' is the law's where the arguments, and the package variables that the reading takes, are together of bulk at most 1048576: NARROWER than '..Said'. Prove '..Said' where nothing that the law and all that it calls make is longer than what came in: it says more and counts as full. Else prove '..UptoSaid'. A law counts once. -/
mutual
def uptoBulk {H : Type} : DataW H → Nat
  | .lit (.string bytes) => bytes.length + 1
  | .lit _ => 1
  | .nil => 1
  | .ptr d => uptoBulk d + 1
  | .slice elems spare => uptoBulkAll elems + uptoBulkAll spare + 1
  | .agg parts => uptoBulkAll parts + 1
  | .iface _ d => uptoBulk d + 1
  | .map entries => uptoBulkEntries entries + 1
  | .held _ => 1
def uptoBulkAll {H : Type} : List (DataW H) → Nat
  | [] => 0
  | d :: r => uptoBulk d + uptoBulkAll r
def uptoBulkEntries {H : Type} : List (Lit × DataW H) → Nat
  | [] => 0
  | x :: r => uptoBulkEntry x + uptoBulkEntries r
def uptoBulkEntry {H : Type} : Lit × DataW H → Nat
  | (.string bytes, d) => bytes.length + uptoBulk d + 1
  | (_, d) => uptoBulk d + 1
 end
def uptoSmall : (H : Type) → List (DataW H) → Bool := fun _ ds => decide (uptoBulkAll ds ≤ 1048576)
def OpenSpec.upto (s : _root_.Go.ChangeSpec) : _root_.Go.OpenSpec := { _root_.Go.OpenSpec.ofChange s with cond := some uptoSmall }

/-- 'carryoverlaw04.PilePlays', WHERE WHAT IT READS IS OF BULK AT MOST 1048576: true; the input reads as it did. -/
def pilePlaysUptoRow : OpenClaim := { program := "ythhechgjablklaa", sum := "25532d06c3b3f8fdbe1d0905594ee61da1366f9e8a702c1f944bb63e53a425d2", func := "carryover/carryoverlaw04.PilePlays", spec := "pilePlays", inPlace := ["math.Float64frombits", "math.Float64bits"], unfollowed := true, recurses := true, apart := false, narrowed := true }
def PilePlaysUptoSaid : Prop := pilePlaysUptoRow.holds Try.pinned (OpenSpec.upto pilePlaysSpec)

/-- 'carryoverlaw04.PileOrder', WHERE WHAT IT READS IS OF BULK AT MOST 1048576: true; the input reads as it did. -/
def pileOrderUptoRow : OpenClaim := { program := "ythhechgjablklaa", sum := "25532d06c3b3f8fdbe1d0905594ee61da1366f9e8a702c1f944bb63e53a425d2", func := "carryover/carryoverlaw04.PileOrder", spec := "pileOrder", inPlace := ["math.Float64frombits", "math.Float64bits"], unfollowed := true, recurses := true, apart := false, narrowed := true }
def PileOrderUptoSaid : Prop := pileOrderUptoRow.holds Try.pinned (OpenSpec.upto pileOrderSpec)

/-- 'carryoverlaw04.PileMerge', WHERE WHAT IT READS IS OF BULK AT MOST 1048576: true; the input reads as it did. -/
def pileMergeUptoRow : OpenClaim := { program := "ythhechgjablklaa", sum := "25532d06c3b3f8fdbe1d0905594ee61da1366f9e8a702c1f944bb63e53a425d2", func := "carryover/carryoverlaw04.PileMerge", spec := "pileMerge", inPlace := ["math.Float64frombits", "math.Float64bits"], unfollowed := true, recurses := true, apart := false, narrowed := true }
def PileMergeUptoSaid : Prop := pileMergeUptoRow.holds Try.pinned (OpenSpec.upto pileMergeSpec)

/-- 'carryoverlaw05.CellPlays', WHERE WHAT IT READS IS OF BULK AT MOST 1048576: true; the input reads as it did. -/
def cellPlaysUptoRow : OpenClaim := { program := "ythhechgjablklaa", sum := "25532d06c3b3f8fdbe1d0905594ee61da1366f9e8a702c1f944bb63e53a425d2", func := "carryover/carryoverlaw05.CellPlays", spec := "cellPlays", inPlace := ["math.Float64frombits", "math.Float64bits"], apart := false, narrowed := true }
def CellPlaysUptoSaid : Prop := cellPlaysUptoRow.holds Try.pinned (OpenSpec.upto cellPlaysSpec)

/-- 'carryoverlaw05.CellVersions', WHERE WHAT IT READS IS OF BULK AT MOST 1048576: true; the input reads as it did. -/
def cellVersionsUptoRow : OpenClaim := { program := "ythhechgjablklaa", sum := "25532d06c3b3f8fdbe1d0905594ee61da1366f9e8a702c1f944bb63e53a425d2", func := "carryover/carryoverlaw05.CellVersions", spec := "cellVersions", inPlace := ["math.Float64frombits", "math.Float64bits"], unfollowed := true, recurses := true, apart := false, narrowed := true }
def CellVersionsUptoSaid : Prop := cellVersionsUptoRow.holds Try.pinned (OpenSpec.upto cellVersionsSpec)

/-- 'carryoverlaw07.TallySteps', WHERE WHAT IT READS IS OF BULK AT MOST 1048576: true; the input reads as it did. -/
def tallyStepsUptoRow : OpenClaim := { program := "ythhechgjablklaa", sum := "25532d06c3b3f8fdbe1d0905594ee61da1366f9e8a702c1f944bb63e53a425d2", func := "carryover/carryoverlaw07.TallySteps", spec := "tallySteps", inPlace := ["math.Float64frombits", "math.Float64bits"], unfollowed := true, recurses := true, apart := false, narrowed := true }
def TallyStepsUptoSaid : Prop := tallyStepsUptoRow.holds Try.pinned (OpenSpec.upto tallyStepsSpec)

/-- 'carryoverlaw07.TallyAdds', WHERE WHAT IT READS IS OF BULK AT MOST 1048576: true; the input reads as it did. -/
def tallyAddsUptoRow : OpenClaim := { program := "ythhechgjablklaa", sum := "25532d06c3b3f8fdbe1d0905594ee61da1366f9e8a702c1f944bb63e53a425d2", func := "carryover/carryoverlaw07.TallyAdds", spec := "tallyAdds", inPlace := ["math.Float64frombits", "math.Float64bits"], unfollowed := true, recurses := true, apart := false, narrowed := true }
def TallyAddsUptoSaid : Prop := tallyAddsUptoRow.holds Try.pinned (OpenSpec.upto tallyAddsSpec)

/-- 'carryoverlaw07.TallyBetween', WHERE WHAT IT READS IS OF BULK AT MOST 1048576: true; the input reads as it did. -/
def tallyBetweenUptoRow : OpenClaim := { program := "ythhechgjablklaa", sum := "25532d06c3b3f8fdbe1d0905594ee61da1366f9e8a702c1f944bb63e53a425d2", func := "carryover/carryoverlaw07.TallyBetween", spec := "tallyBetween", inPlace := ["math.Float64frombits", "math.Float64bits"], unfollowed := true, recurses := true, apart := false, narrowed := true }
def TallyBetweenUptoSaid : Prop := tallyBetweenUptoRow.holds Try.pinned (OpenSpec.upto tallyBetweenSpec)

/-- 'carryoverlaw07.TallyNew', WHERE WHAT IT READS IS OF BULK AT MOST 1048576: true; the input reads as it did. -/
def tallyNewUptoRow : OpenClaim := { program := "ythhechgjablklaa", sum := "25532d06c3b3f8fdbe1d0905594ee61da1366f9e8a702c1f944bb63e53a425d2", func := "carryover/carryoverlaw07.TallyNew", spec := "tallyNew", unfollowed := true, recurses := true, apart := false, narrowed := true }
def TallyNewUptoSaid : Prop := tallyNewUptoRow.holds Try.pinned (OpenSpec.upto tallyNewSpec)

/-- 'carryoverlaw07.TallyAlone', WHERE WHAT IT READS IS OF BULK AT MOST 1048576: true; the input reads as it did. -/
def tallyAloneUptoRow : OpenClaim := { program := "ythhechgjablklaa", sum := "25532d06c3b3f8fdbe1d0905594ee61da1366f9e8a702c1f944bb63e53a425d2", func := "carryover/carryoverlaw07.TallyAlone", spec := "tallyAlone", unfollowed := true, recurses := true, apart := false, narrowed := true }
def TallyAloneUptoSaid : Prop := tallyAloneUptoRow.holds Try.pinned (OpenSpec.upto tallyAloneSpec)

/-- 'carryoverlaw08.MultiAlone', WHERE WHAT IT READS IS OF BULK AT MOST 1048576: true; the input reads as it did. -/
def multiAloneUptoRow : OpenClaim := { program := "ythhechgjablklaa", sum := "25532d06c3b3f8fdbe1d0905594ee61da1366f9e8a702c1f944bb63e53a425d2", func := "carryover/carryoverlaw08.MultiAlone", spec := "multiAlone", inPlace := ["math.Float64frombits", "math.Float64bits"], unfollowed := true, recurses := true, apart := false, narrowed := true }
def MultiAloneUptoSaid : Prop := multiAloneUptoRow.holds Try.pinned (OpenSpec.upto multiAloneSpec)

/-- 'carryoverlaw08.MultiFull', WHERE WHAT IT READS IS OF BULK AT MOST 1048576: true; the input reads as it did. -/
def multiFullUptoRow : OpenClaim := { program := "ythhechgjablklaa", sum := "25532d06c3b3f8fdbe1d0905594ee61da1366f9e8a702c1f944bb63e53a425d2", func := "carryover/carryoverlaw08.MultiFull", spec := "multiFull", inPlace := ["math.Float64frombits"], unfollowed := true, recurses := true, apart := false, narrowed := true }
def MultiFullUptoSaid : Prop := multiFullUptoRow.holds Try.pinned (OpenSpec.upto multiFullSpec)

/-- 'carryovertop.CarryoverSorted', WHERE WHAT IT READS IS OF BULK AT MOST 1048576: true; the input reads as it did. -/
def carryoverSortedUptoRow : OpenClaim := { program := "ythhechgjablklaa", sum := "25532d06c3b3f8fdbe1d0905594ee61da1366f9e8a702c1f944bb63e53a425d2", func := "carryover/carryovertop.CarryoverSorted", spec := "carryoverSorted", inPlace := ["math.Float64frombits", "math.Float64bits"], unfollowed := true, recurses := true, apart := false, narrowed := true }
def CarryoverSortedUptoSaid : Prop := carryoverSortedUptoRow.holds Try.pinned (OpenSpec.upto carryoverSortedSpec)

end Rows
end Go.Proofs.Ythhechgjablklaa
