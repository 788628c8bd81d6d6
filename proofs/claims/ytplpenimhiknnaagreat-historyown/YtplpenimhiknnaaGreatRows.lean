/-
  No cell of these rows narrows 'for every input' (looked for: loops, veiled, ifaces, maps, wideKeys, modest, calm, conditions, laid).
  DERIVED. THE GIVEN ROWS OF THIS SEAT. 9 by the template 'for every input the law returns true; each argument reads behind the call as it read before'; 0 by the template 'total and deterministic' (their statements: YtplpenimhiknnaaGreatTotals.lean).
  GIVEN WITH THE SEED: the statements are not yours to turn. If you find one false, say at which input.
  Laid BY PROGRAM, IN A SANDBOX (cutbox-rows.mjs): the forced cells as the released guide's own fill.sh prints them over the translation 663cd88e5b0b0955… (all of the seat's roots in one cut). By AI agents, Wed Nov 11 2026. No macro, syntax, notation, axiom, sorry.
-/
import Derived.Test.YtplpenimhiknnaaGreatChecked
import GoSem.Claim
import GoSem.ClaimJoined
import GoSem.ClaimMapViews
import Derived.JoinedTies
import Derived.KernelRfl
namespace Go.Proofs.YtplpenimhiknnaaGreat
/- THE CELL 'sum', in the pinned program and in every row, IS THE sha256 OF THE DUMP (.gsa) THAT YtplpenimhiknnaaGreatProg.lean LOADS. Nothing in Lean hashes anything: it is a label: what it is worth is what the hold of that sum in a sandbox is worth. -/
noncomputable def Tryz.pinned : Pinned := { name := "ytplpenimhiknnaagreat", sum := "663cd88e5b0b09551a2cb659730e8c8b25a1ac250d1e473a6095b91bc64fa0ca", checked := Tryz.checked }
namespace Rows
def none {H : Type} : Left H := { results := [], args := [] }

/-- 'carryoverlaw13.EnginePlays': WHATEVER THE INPUT: true; the input reads as it did. -/
def enginePlaysSpec : ChangeSpec := { name := "enginePlays", fn := fun _ => fun
  | [d1, d2, d3] => { results := [.lit (.bool true)], args := [d1, d2, d3] }
  | _ => none }
def enginePlaysRow : OpenClaim := { program := "ytplpenimhiknnaagreat", sum := "663cd88e5b0b09551a2cb659730e8c8b25a1ac250d1e473a6095b91bc64fa0ca", func := "carryover/carryoverlaw13.EnginePlays", spec := "enginePlays", inPlace := ["math.Float64frombits", "math.Float64bits"], unfollowed := true, recurses := true, apart := false }
def EnginePlaysSaid : Prop := enginePlaysRow.holds Tryz.pinned (OpenSpec.ofChange enginePlaysSpec)

/-- ITS FALSE NEIGHBOUR: 'it returns false'. Refute it at one input. -/
def enginePlaysWrong : ChangeSpec := { name := "enginePlays", fn := fun _ => fun
  | [d1, d2, d3] => { results := [.lit (.bool false)], args := [d1, d2, d3] }
  | _ => none }
def EnginePlaysWrongFalsely : Prop := enginePlaysRow.holds Tryz.pinned (OpenSpec.ofChange enginePlaysWrong)

/-- 'carryoverlaw13.EngineErrors': WHATEVER THE INPUT: true; the input reads as it did. -/
def engineErrorsSpec : ChangeSpec := { name := "engineErrors", fn := fun _ => fun
  | [d1, d2, d3, d4, d5, d6, d7] => { results := [.lit (.bool true)], args := [d1, d2, d3, d4, d5, d6, d7] }
  | _ => none }
def engineErrorsRow : OpenClaim := { program := "ytplpenimhiknnaagreat", sum := "663cd88e5b0b09551a2cb659730e8c8b25a1ac250d1e473a6095b91bc64fa0ca", func := "carryover/carryoverlaw13.EngineErrors", spec := "engineErrors", unfollowed := true, recurses := true, apart := false }
def EngineErrorsSaid : Prop := engineErrorsRow.holds Tryz.pinned (OpenSpec.ofChange engineErrorsSpec)

/-- ITS FALSE NEIGHBOUR: 'it returns false'. Refute it at one input. -/
def engineErrorsWrong : ChangeSpec := { name := "engineErrors", fn := fun _ => fun
  | [d1, d2, d3, d4, d5, d6, d7] => { results := [.lit (.bool false)], args := [d1, d2, d3, d4, d5, d6, d7] }
  | _ => none }
def EngineErrorsWrongFalsely : Prop := engineErrorsRow.holds Tryz.pinned (OpenSpec.ofChange engineErrorsWrong)

/-- 'carryoverlaw13.EngineEnds': WHATEVER THE INPUT: true; the input reads as it did. -/
def engineEndsSpec : ChangeSpec := { name := "engineEnds", fn := fun _ => fun
  | [d1, d2, d3, d4] => { results := [.lit (.bool true)], args := [d1, d2, d3, d4] }
  | _ => none }
def engineEndsRow : OpenClaim := { program := "ytplpenimhiknnaagreat", sum := "663cd88e5b0b09551a2cb659730e8c8b25a1ac250d1e473a6095b91bc64fa0ca", func := "carryover/carryoverlaw13.EngineEnds", spec := "engineEnds", inPlace := ["math.Float64frombits"], unfollowed := true, recurses := true, apart := false }
def EngineEndsSaid : Prop := engineEndsRow.holds Tryz.pinned (OpenSpec.ofChange engineEndsSpec)

/-- ITS FALSE NEIGHBOUR: 'it returns false'. Refute it at one input. -/
def engineEndsWrong : ChangeSpec := { name := "engineEnds", fn := fun _ => fun
  | [d1, d2, d3, d4] => { results := [.lit (.bool false)], args := [d1, d2, d3, d4] }
  | _ => none }
def EngineEndsWrongFalsely : Prop := engineEndsRow.holds Tryz.pinned (OpenSpec.ofChange engineEndsWrong)

/-- 'carryoverlaw13.EngineWith': WHATEVER THE INPUT: true; the input reads as it did. -/
def engineWithSpec : ChangeSpec := { name := "engineWith", fn := fun _ => fun
  | [d1, d2] => { results := [.lit (.bool true)], args := [d1, d2] }
  | _ => none }
def engineWithRow : OpenClaim := { program := "ytplpenimhiknnaagreat", sum := "663cd88e5b0b09551a2cb659730e8c8b25a1ac250d1e473a6095b91bc64fa0ca", func := "carryover/carryoverlaw13.EngineWith", spec := "engineWith", inPlace := ["math.Float64frombits", "math.Float64bits"], unfollowed := true, recurses := true, apart := false }
def EngineWithSaid : Prop := engineWithRow.holds Tryz.pinned (OpenSpec.ofChange engineWithSpec)

/-- ITS FALSE NEIGHBOUR: 'it returns false'. Refute it at one input. -/
def engineWithWrong : ChangeSpec := { name := "engineWith", fn := fun _ => fun
  | [d1, d2] => { results := [.lit (.bool false)], args := [d1, d2] }
  | _ => none }
def EngineWithWrongFalsely : Prop := engineWithRow.holds Tryz.pinned (OpenSpec.ofChange engineWithWrong)

/-- 'carryoverlaw13.EngineSame': WHATEVER THE INPUT: true; the input reads as it did. -/
def engineSameSpec : ChangeSpec := { name := "engineSame", fn := fun _ => fun
  | [d1, d2, d3] => { results := [.lit (.bool true)], args := [d1, d2, d3] }
  | _ => none }
def engineSameRow : OpenClaim := { program := "ytplpenimhiknnaagreat", sum := "663cd88e5b0b09551a2cb659730e8c8b25a1ac250d1e473a6095b91bc64fa0ca", func := "carryover/carryoverlaw13.EngineSame", spec := "engineSame", inPlace := ["math.Float64frombits", "math.Float64bits"], unfollowed := true, recurses := true, apart := false }
def EngineSameSaid : Prop := engineSameRow.holds Tryz.pinned (OpenSpec.ofChange engineSameSpec)

/-- ITS FALSE NEIGHBOUR: 'it returns false'. Refute it at one input. -/
def engineSameWrong : ChangeSpec := { name := "engineSame", fn := fun _ => fun
  | [d1, d2, d3] => { results := [.lit (.bool false)], args := [d1, d2, d3] }
  | _ => none }
def EngineSameWrongFalsely : Prop := engineSameRow.holds Tryz.pinned (OpenSpec.ofChange engineSameWrong)

/-- 'carryoverlaw14.HistoryPlays': WHATEVER THE INPUT: true; the input reads as it did. -/
def historyPlaysSpec : ChangeSpec := { name := "historyPlays", fn := fun _ => fun
  | [d1, d2, d3] => { results := [.lit (.bool true)], args := [d1, d2, d3] }
  | _ => none }
def historyPlaysRow : OpenClaim := { program := "ytplpenimhiknnaagreat", sum := "663cd88e5b0b09551a2cb659730e8c8b25a1ac250d1e473a6095b91bc64fa0ca", func := "carryover/carryoverlaw14.HistoryPlays", spec := "historyPlays", inPlace := ["math.Float64frombits", "math.Float64bits"], unfollowed := true, recurses := true, apart := false }
def HistoryPlaysSaid : Prop := historyPlaysRow.holds Tryz.pinned (OpenSpec.ofChange historyPlaysSpec)

/-- ITS FALSE NEIGHBOUR: 'it returns false'. Refute it at one input. -/
def historyPlaysWrong : ChangeSpec := { name := "historyPlays", fn := fun _ => fun
  | [d1, d2, d3] => { results := [.lit (.bool false)], args := [d1, d2, d3] }
  | _ => none }
def HistoryPlaysWrongFalsely : Prop := historyPlaysRow.holds Tryz.pinned (OpenSpec.ofChange historyPlaysWrong)

/-- 'carryoverlaw14.HistoryChecks': WHATEVER THE INPUT: true; the input reads as it did. -/
def historyChecksSpec : ChangeSpec := { name := "historyChecks", fn := fun _ => fun
  | [d1, d2, d3] => { results := [.lit (.bool true)], args := [d1, d2, d3] }
  | _ => none }
def historyChecksRow : OpenClaim := { program := "ytplpenimhiknnaagreat", sum := "663cd88e5b0b09551a2cb659730e8c8b25a1ac250d1e473a6095b91bc64fa0ca", func := "carryover/carryoverlaw14.HistoryChecks", spec := "historyChecks", unfollowed := true, recurses := true, apart := false }
def HistoryChecksSaid : Prop := historyChecksRow.holds Tryz.pinned (OpenSpec.ofChange historyChecksSpec)

/-- ITS FALSE NEIGHBOUR: 'it returns false'. Refute it at one input. -/
def historyChecksWrong : ChangeSpec := { name := "historyChecks", fn := fun _ => fun
  | [d1, d2, d3] => { results := [.lit (.bool false)], args := [d1, d2, d3] }
  | _ => none }
def HistoryChecksWrongFalsely : Prop := historyChecksRow.holds Tryz.pinned (OpenSpec.ofChange historyChecksWrong)

/-- 'carryoverlaw14.HistoryAhead': WHATEVER THE INPUT: true; the input reads as it did. -/
def historyAheadSpec : ChangeSpec := { name := "historyAhead", fn := fun _ => fun
  | [d1, d2, d3] => { results := [.lit (.bool true)], args := [d1, d2, d3] }
  | _ => none }
def historyAheadRow : OpenClaim := { program := "ytplpenimhiknnaagreat", sum := "663cd88e5b0b09551a2cb659730e8c8b25a1ac250d1e473a6095b91bc64fa0ca", func := "carryover/carryoverlaw14.HistoryAhead", spec := "historyAhead", unfollowed := true, recurses := true, apart := false }
def HistoryAheadSaid : Prop := historyAheadRow.holds Tryz.pinned (OpenSpec.ofChange historyAheadSpec)

/-- ITS FALSE NEIGHBOUR: 'it returns false'. Refute it at one input. -/
def historyAheadWrong : ChangeSpec := { name := "historyAhead", fn := fun _ => fun
  | [d1, d2, d3] => { results := [.lit (.bool false)], args := [d1, d2, d3] }
  | _ => none }
def HistoryAheadWrongFalsely : Prop := historyAheadRow.holds Tryz.pinned (OpenSpec.ofChange historyAheadWrong)

/-- 'carryoverlaw14.HistoryOwn': WHATEVER THE INPUT: true; the input reads as it did. -/
def historyOwnSpec : ChangeSpec := { name := "historyOwn", fn := fun _ => fun
  | [d1, d2] => { results := [.lit (.bool true)], args := [d1, d2] }
  | _ => none }
def historyOwnRow : OpenClaim := { program := "ytplpenimhiknnaagreat", sum := "663cd88e5b0b09551a2cb659730e8c8b25a1ac250d1e473a6095b91bc64fa0ca", func := "carryover/carryoverlaw14.HistoryOwn", spec := "historyOwn", unfollowed := true, recurses := true, apart := false }
def HistoryOwnSaid : Prop := historyOwnRow.holds Tryz.pinned (OpenSpec.ofChange historyOwnSpec)

/-- ITS FALSE NEIGHBOUR: 'it returns false'. Refute it at one input. -/
def historyOwnWrong : ChangeSpec := { name := "historyOwn", fn := fun _ => fun
  | [d1, d2] => { results := [.lit (.bool false)], args := [d1, d2] }
  | _ => none }
def HistoryOwnWrongFalsely : Prop := historyOwnRow.holds Tryz.pinned (OpenSpec.ofChange historyOwnWrong)

/- THE SECOND FORM. 'bulk': how many values and letters a reading holds, each counted each time it is reached (what is shared counts as often as it is met; a slice's spare places count too). A statement '..UptoSaid' is the law's where the arguments, and the package variables that the reading takes, are together of bulk at most 1048576: NARROWER than '..Said'. Prove '..Said' where nothing that the law and all that it calls make is longer than what came in: it says more and counts as full. Else prove '..UptoSaid'. A law counts once. -/
mutual
def uptoBulk {H : Type} : DataW H → Nat
  | .lit (.string bytes) => bytes.length + 1
  | .lit _ => 1
  | .nil => 1
  | .ptr d => uptoBulk d + 1
  | .slice elems spare => uptoBulkAll elems + uptoBulkAll spare + 1
  | .agg parts => uptoBulkAll parts + 1
  | .iface _ d => uptoBulk d + 1
  | .map entries => uptoBulkEntries entries + 1
  | .held _ => 1
def uptoBulkAll {H : Type} : List (DataW H) → Nat
  | [] => 0
  | d :: r => uptoBulk d + uptoBulkAll r
def uptoBulkEntries {H : Type} : List (Lit × DataW H) → Nat
  | [] => 0
  | x :: r => uptoBulkEntry x + uptoBulkEntries r
def uptoBulkEntry {H : Type} : Lit × DataW H → Nat
  | (.string bytes, d) => bytes.length + uptoBulk d + 1
  | (_, d) => uptoBulk d + 1
 end
def uptoSmall : (H : Type) → List (DataW H) → Bool := fun _ ds => decide (uptoBulkAll ds ≤ 1048576)
def OpenSpec.upto (s : _root_.Go.ChangeSpec) : _root_.Go.OpenSpec := { _root_.Go.OpenSpec.ofChange s with cond := some uptoSmall }

/-- 'carryoverlaw13.EnginePlays', WHERE WHAT IT READS IS OF BULK AT MOST 1048576: true; the input reads as it did. -/
def enginePlaysUptoRow : OpenClaim := { program := "ytplpenimhiknnaagreat", sum := "663cd88e5b0b09551a2cb659730e8c8b25a1ac250d1e473a6095b91bc64fa0ca", func := "carryover/carryoverlaw13.EnginePlays", spec := "enginePlays", inPlace := ["math.Float64frombits", "math.Float64bits"], unfollowed := true, recurses := true, apart := false, narrowed := true }
def EnginePlaysUptoSaid : Prop := enginePlaysUptoRow.holds Tryz.pinned (OpenSpec.upto enginePlaysSpec)

/-- 'carryoverlaw13.EngineErrors', WHERE WHAT IT READS IS OF BULK AT MOST 1048576: true; the input reads as it did. -/
def engineErrorsUptoRow : OpenClaim := { program := "ytplpenimhiknnaagreat", sum := "663cd88e5b0b09551a2cb659730e8c8b25a1ac250d1e473a6095b91bc64fa0ca", func := "carryover/carryoverlaw13.EngineErrors", spec := "engineErrors", unfollowed := true, recurses := true, apart := false, narrowed := true }
def EngineErrorsUptoSaid : Prop := engineErrorsUptoRow.holds Tryz.pinned (OpenSpec.upto engineErrorsSpec)

/-- 'carryoverlaw13.EngineEnds', WHERE WHAT IT READS IS OF BULK AT MOST 1048576: true; the input reads as it did. -/
def engineEndsUptoRow : OpenClaim := { program := "ytplpenimhiknnaagreat", sum := "663cd88e5b0b09551a2cb659730e8c8b25a1ac250d1e473a6095b91bc64fa0ca", func := "carryover/carryoverlaw13.EngineEnds", spec := "engineEnds", inPlace := ["math.Float64frombits"], unfollowed := true, recurses := true, apart := false, narrowed := true }
def EngineEndsUptoSaid : Prop := engineEndsUptoRow.holds Tryz.pinned (OpenSpec.upto engineEndsSpec)

/-- 'carryoverlaw13.EngineWith', WHERE WHAT IT READS IS OF BULK AT MOST 1048576: true; the input reads as it did. -/
def engineWithUptoRow : OpenClaim := { program := "ytplpenimhiknnaagreat", sum := "663cd88e5b0b09551a2cb659730e8c8b25a1ac250d1e473a6095b91bc64fa0ca", func := "carryover/carryoverlaw13.EngineWith", spec := "engineWith", inPlace := ["math.Float64frombits", "math.Float64bits"], unfollowed := true, recurses := true, apart := false, narrowed := true }
def EngineWithUptoSaid : Prop := engineWithUptoRow.holds Tryz.pinned (OpenSpec.upto engineWithSpec)

/-- 'carryoverlaw13.EngineSame', WHERE WHAT IT READS IS OF BULK AT MOST 1048576: true; the input reads as it did. -/
def engineSameUptoRow : OpenClaim := { program := "ytplpenimhiknnaagreat", sum := "663cd88e5b0b09551a2cb659730e8c8b25a1ac250d1e473a6095b91bc64fa0ca", func := "carryover/carryoverlaw13.EngineSame", spec := "engineSame", inPlace := ["math.Float64frombits", "math.Float64bits"], unfollowed := true, recurses := true, apart := false, narrowed := true }
def EngineSameUptoSaid : Prop := engineSameUptoRow.holds Tryz.pinned (OpenSpec.upto engineSameSpec)

/-- 'carryoverlaw14.HistoryPlays', WHERE WHAT IT READS IS OF BULK AT MOST 1048576: true; the input reads as it did. -/
def historyPlaysUptoRow : OpenClaim := { program := "ytplpenimhiknnaagreat", sum := "663cd88e5b0b09551a2cb659730e8c8b25a1ac250d1e473a6095b91bc64fa0ca", func := "carryover/carryoverlaw14.HistoryPlays", spec := "historyPlays", inPlace := ["math.Float64frombits", "math.Float64bits"], unfollowed := true, recurses := true, apart := false, narrowed := true }
def HistoryPlaysUptoSaid : Prop := historyPlaysUptoRow.holds Tryz.pinned (OpenSpec.upto historyPlaysSpec)

/-- 'carryoverlaw14.HistoryChecks', WHERE WHAT IT READS IS OF BULK AT MOST 1048576: true; the input reads as it did. -/
def historyChecksUptoRow : OpenClaim := { program := "ytplpenimhiknnaagreat", sum := "663cd88e5b0b09551a2cb659730e8c8b25a1ac250d1e473a6095b91bc64fa0ca", func := "carryover/carryoverlaw14.HistoryChecks", spec := "historyChecks", unfollowed := true, recurses := true, apart := false, narrowed := true }
def HistoryChecksUptoSaid : Prop := historyChecksUptoRow.holds Tryz.pinned (OpenSpec.upto historyChecksSpec)

/-- 'carryoverlaw14.HistoryAhead', WHERE WHAT IT READS IS OF BULK AT MOST 1048576: true; the input reads as it did. -/
def historyAheadUptoRow : OpenClaim := { program := "ytplpenimhiknnaagreat", sum := "663cd88e5b0b09551a2cb659730e8c8b25a1ac250d1e473a6095b91bc64fa0ca", func := "carryover/carryoverlaw14.HistoryAhead", spec := "historyAhead", unfollowed := true, recurses := true, apart := false, narrowed := true }
def HistoryAheadUptoSaid : Prop := historyAheadUptoRow.holds Tryz.pinned (OpenSpec.upto historyAheadSpec)

/-- 'carryoverlaw14.HistoryOwn', WHERE WHAT IT READS IS OF BULK AT MOST 1048576: true; the input reads as it did. -/
def historyOwnUptoRow : OpenClaim := { program := "ytplpenimhiknnaagreat", sum := "663cd88e5b0b09551a2cb659730e8c8b25a1ac250d1e473a6095b91bc64fa0ca", func := "carryover/carryoverlaw14.HistoryOwn", spec := "historyOwn", unfollowed := true, recurses := true, apart := false, narrowed := true }
def HistoryOwnUptoSaid : Prop := historyOwnUptoRow.holds Tryz.pinned (OpenSpec.upto historyOwnSpec)

end Rows
end Go.Proofs.YtplpenimhiknnaaGreat
