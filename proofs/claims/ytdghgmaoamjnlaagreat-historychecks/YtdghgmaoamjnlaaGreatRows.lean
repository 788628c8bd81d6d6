/-
  No cell of these rows narrows 'for every input' (looked for: loops, veiled, ifaces, maps, wideKeys, modest, calm, conditions, laid).
  DERIVED. THE GIVEN ROWS OF THIS SEAT. 7 by the template 'for every input the law returns true; each argument reads behind the call as it read before'; 0 by the template 'total and deterministic' (their statements: YtdghgmaoamjnlaaGreatTotals.lean).
  GIVEN WITH THE SEED: the statements are not yours to turn. If you find one false, say at which input.
  Laid BY PROGRAM, IN A SANDBOX (cutbox-rows.mjs): the forced cells as the released guide's own fill.sh prints them over the translation 63a38424e0aa4a7c… (all of the seat's roots in one cut). By AI agents, Wed Nov 11 2026. No macro, syntax, notation, axiom, sorry.
-/
import Derived.Test.YtdghgmaoamjnlaaGreatChecked
import GoSem.Claim
import GoSem.ClaimJoined
import GoSem.ClaimMapViews
import Derived.JoinedTies
import Derived.KernelRfl
namespace Go.Proofs.YtdghgmaoamjnlaaGreat
/- THE CELL 'sum', in the pinned program and in every row, IS THE sha256 OF THE DUMP (.gsa) THAT YtdghgmaoamjnlaaGreatProg.lean LOADS. Nothing in Lean hashes anything: it is a label: what it is worth is what the hold of that sum in a sandbox is worth. -/
noncomputable def Tryz.pinned : Pinned := { name := "ytdghgmaoamjnlaagreat", sum := "63a38424e0aa4a7c63599d1b5c1b198a8e656e5261a85c86cd3585c2b0c85772", checked := Tryz.checked }
namespace Rows
def none {H : Type} : Left H := { results := [], args := [] }

/-- 'carryoverlaw15.LaxHolds': WHATEVER THE INPUT: true; the input reads as it did. -/
def laxHoldsSpec : ChangeSpec := { name := "laxHolds", fn := fun _ => fun
  | [d1, d2, d3] => { results := [.lit (.bool true)], args := [d1, d2, d3] }
  | _ => none }
def laxHoldsRow : OpenClaim := { program := "ytdghgmaoamjnlaagreat", sum := "63a38424e0aa4a7c63599d1b5c1b198a8e656e5261a85c86cd3585c2b0c85772", func := "carryover/carryoverlaw15.LaxHolds", spec := "laxHolds", inPlace := ["math.Float64frombits", "math.Float64bits"], unfollowed := true, recurses := true, apart := false }
def LaxHoldsSaid : Prop := laxHoldsRow.holds Tryz.pinned (OpenSpec.ofChange laxHoldsSpec)

/-- ITS FALSE NEIGHBOUR: 'it returns false'. Refute it at one input. -/
def laxHoldsWrong : ChangeSpec := { name := "laxHolds", fn := fun _ => fun
  | [d1, d2, d3] => { results := [.lit (.bool false)], args := [d1, d2, d3] }
  | _ => none }
def LaxHoldsWrongFalsely : Prop := laxHoldsRow.holds Tryz.pinned (OpenSpec.ofChange laxHoldsWrong)

/-- 'carryoverlaw15.LaxChecks': WHATEVER THE INPUT: true; the input reads as it did. -/
def laxChecksSpec : ChangeSpec := { name := "laxChecks", fn := fun _ => fun
  | [d1, d2, d3, d4, d5] => { results := [.lit (.bool true)], args := [d1, d2, d3, d4, d5] }
  | _ => none }
def laxChecksRow : OpenClaim := { program := "ytdghgmaoamjnlaagreat", sum := "63a38424e0aa4a7c63599d1b5c1b198a8e656e5261a85c86cd3585c2b0c85772", func := "carryover/carryoverlaw15.LaxChecks", spec := "laxChecks", inPlace := ["math.Float64frombits", "math.Float64bits"], unfollowed := true, recurses := true, apart := false }
def LaxChecksSaid : Prop := laxChecksRow.holds Tryz.pinned (OpenSpec.ofChange laxChecksSpec)

/-- ITS FALSE NEIGHBOUR: 'it returns false'. Refute it at one input. -/
def laxChecksWrong : ChangeSpec := { name := "laxChecks", fn := fun _ => fun
  | [d1, d2, d3, d4, d5] => { results := [.lit (.bool false)], args := [d1, d2, d3, d4, d5] }
  | _ => none }
def LaxChecksWrongFalsely : Prop := laxChecksRow.holds Tryz.pinned (OpenSpec.ofChange laxChecksWrong)

/-- 'carryoverlaw15.LaxTells': WHATEVER THE INPUT: true; the input reads as it did. -/
def laxTellsSpec : ChangeSpec := { name := "laxTells", fn := fun _ => fun
  | [d1, d2, d3, d4] => { results := [.lit (.bool true)], args := [d1, d2, d3, d4] }
  | _ => none }
def laxTellsRow : OpenClaim := { program := "ytdghgmaoamjnlaagreat", sum := "63a38424e0aa4a7c63599d1b5c1b198a8e656e5261a85c86cd3585c2b0c85772", func := "carryover/carryoverlaw15.LaxTells", spec := "laxTells", inPlace := ["math.Float64frombits", "math.Float64bits"], unfollowed := true, recurses := true, apart := false }
def LaxTellsSaid : Prop := laxTellsRow.holds Tryz.pinned (OpenSpec.ofChange laxTellsSpec)

/-- ITS FALSE NEIGHBOUR: 'it returns false'. Refute it at one input. -/
def laxTellsWrong : ChangeSpec := { name := "laxTells", fn := fun _ => fun
  | [d1, d2, d3, d4] => { results := [.lit (.bool false)], args := [d1, d2, d3, d4] }
  | _ => none }
def LaxTellsWrongFalsely : Prop := laxTellsRow.holds Tryz.pinned (OpenSpec.ofChange laxTellsWrong)

/-- 'carryoverlaw15.LaxPrefix': WHATEVER THE INPUT: true; the input reads as it did. -/
def laxPrefixSpec : ChangeSpec := { name := "laxPrefix", fn := fun _ => fun
  | [d1, d2, d3, d4] => { results := [.lit (.bool true)], args := [d1, d2, d3, d4] }
  | _ => none }
def laxPrefixRow : OpenClaim := { program := "ytdghgmaoamjnlaagreat", sum := "63a38424e0aa4a7c63599d1b5c1b198a8e656e5261a85c86cd3585c2b0c85772", func := "carryover/carryoverlaw15.LaxPrefix", spec := "laxPrefix", inPlace := ["math.Float64frombits", "math.Float64bits"], unfollowed := true, recurses := true, apart := false }
def LaxPrefixSaid : Prop := laxPrefixRow.holds Tryz.pinned (OpenSpec.ofChange laxPrefixSpec)

/-- ITS FALSE NEIGHBOUR: 'it returns false'. Refute it at one input. -/
def laxPrefixWrong : ChangeSpec := { name := "laxPrefix", fn := fun _ => fun
  | [d1, d2, d3, d4] => { results := [.lit (.bool false)], args := [d1, d2, d3, d4] }
  | _ => none }
def LaxPrefixWrongFalsely : Prop := laxPrefixRow.holds Tryz.pinned (OpenSpec.ofChange laxPrefixWrong)

/-- 'carryoverlaw13.EngineWith': WHATEVER THE INPUT: true; the input reads as it did. -/
def engineWithSpec : ChangeSpec := { name := "engineWith", fn := fun _ => fun
  | [d1, d2] => { results := [.lit (.bool true)], args := [d1, d2] }
  | _ => none }
def engineWithRow : OpenClaim := { program := "ytdghgmaoamjnlaagreat", sum := "63a38424e0aa4a7c63599d1b5c1b198a8e656e5261a85c86cd3585c2b0c85772", func := "carryover/carryoverlaw13.EngineWith", spec := "engineWith", inPlace := ["math.Float64frombits", "math.Float64bits"], unfollowed := true, recurses := true, apart := false }
def EngineWithSaid : Prop := engineWithRow.holds Tryz.pinned (OpenSpec.ofChange engineWithSpec)

/-- ITS FALSE NEIGHBOUR: 'it returns false'. Refute it at one input. -/
def engineWithWrong : ChangeSpec := { name := "engineWith", fn := fun _ => fun
  | [d1, d2] => { results := [.lit (.bool false)], args := [d1, d2] }
  | _ => none }
def EngineWithWrongFalsely : Prop := engineWithRow.holds Tryz.pinned (OpenSpec.ofChange engineWithWrong)

/-- 'carryoverlaw14.HistoryChecks': WHATEVER THE INPUT: true; the input reads as it did. -/
def historyChecksSpec : ChangeSpec := { name := "historyChecks", fn := fun _ => fun
  | [d1, d2, d3] => { results := [.lit (.bool true)], args := [d1, d2, d3] }
  | _ => none }
def historyChecksRow : OpenClaim := { program := "ytdghgmaoamjnlaagreat", sum := "63a38424e0aa4a7c63599d1b5c1b198a8e656e5261a85c86cd3585c2b0c85772", func := "carryover/carryoverlaw14.HistoryChecks", spec := "historyChecks", unfollowed := true, recurses := true, apart := false }
def HistoryChecksSaid : Prop := historyChecksRow.holds Tryz.pinned (OpenSpec.ofChange historyChecksSpec)

/-- ITS FALSE NEIGHBOUR: 'it returns false'. Refute it at one input. -/
def historyChecksWrong : ChangeSpec := { name := "historyChecks", fn := fun _ => fun
  | [d1, d2, d3] => { results := [.lit (.bool false)], args := [d1, d2, d3] }
  | _ => none }
def HistoryChecksWrongFalsely : Prop := historyChecksRow.holds Tryz.pinned (OpenSpec.ofChange historyChecksWrong)

/-- 'carryoverlaw12.ValueAfter': WHATEVER THE INPUT: true; the input reads as it did. -/
def valueAfterSpec : ChangeSpec := { name := "valueAfter", fn := fun _ => fun
  | [d1, d2, d3, d4, d5, d6, d7] => { results := [.lit (.bool true)], args := [d1, d2, d3, d4, d5, d6, d7] }
  | _ => none }
def valueAfterRow : OpenClaim := { program := "ytdghgmaoamjnlaagreat", sum := "63a38424e0aa4a7c63599d1b5c1b198a8e656e5261a85c86cd3585c2b0c85772", func := "carryover/carryoverlaw12.ValueAfter", spec := "valueAfter", inPlace := ["math.Float64frombits", "math.Float64bits"], unfollowed := true, recurses := true, apart := false }
def ValueAfterSaid : Prop := valueAfterRow.holds Tryz.pinned (OpenSpec.ofChange valueAfterSpec)

/-- ITS FALSE NEIGHBOUR: 'it returns false'. Refute it at one input. -/
def valueAfterWrong : ChangeSpec := { name := "valueAfter", fn := fun _ => fun
  | [d1, d2, d3, d4, d5, d6, d7] => { results := [.lit (.bool false)], args := [d1, d2, d3, d4, d5, d6, d7] }
  | _ => none }
def ValueAfterWrongFalsely : Prop := valueAfterRow.holds Tryz.pinned (OpenSpec.ofChange valueAfterWrong)

/- THE SECOND FORM. 'bulk': how many values and letters a reading holds, each counted each time it is reached (what is shared counts as often as it is met; a slice's spare places count too). A statement '..UptoSaid' is the law's where the arguments, and the package variables that the reading takes, are together of bulk at most 1048576: NARROWER than '..Said'. Prove '..Said' where nothing that the law and all that it calls make is longer than what came in: it says more and counts as full. Else prove '..UptoSaid'. A law counts once. -/
mutual
def uptoBulk {H : Type} : DataW H → Nat
  | .lit (.string bytes) => bytes.length + 1
  | .lit _ => 1
  | .nil => 1
  | .ptr d => uptoBulk d + 1
  | .slice elems spare => uptoBulkAll elems + uptoBulkAll spare + 1
  | .agg parts => uptoBulkAll parts + 1
  | .iface _ d => uptoBulk d + 1
  | .map entries => uptoBulkEntries entries + 1
  | .held _ => 1
def uptoBulkAll {H : Type} : List (DataW H) → Nat
  | [] => 0
  | d :: r => uptoBulk d + uptoBulkAll r
def uptoBulkEntries {H : Type} : List (Lit × DataW H) → Nat
  | [] => 0
  | x :: r => uptoBulkEntry x + uptoBulkEntries r
def uptoBulkEntry {H : Type} : Lit × DataW H → Nat
  | (.string bytes, d) => bytes.length + uptoBulk d + 1
  | (_, d) => uptoBulk d + 1
 end
def uptoSmall : (H : Type) → List (DataW H) → Bool := fun _ ds => decide (uptoBulkAll ds ≤ 1048576)
def OpenSpec.upto (s : _root_.Go.ChangeSpec) : _root_.Go.OpenSpec := { _root_.Go.OpenSpec.ofChange s with cond := some uptoSmall }

/-- 'carryoverlaw15.LaxHolds', WHERE WHAT IT READS IS OF BULK AT MOST 1048576: true; the input reads as it did. -/
def laxHoldsUptoRow : OpenClaim := { program := "ytdghgmaoamjnlaagreat", sum := "63a38424e0aa4a7c63599d1b5c1b198a8e656e5261a85c86cd3585c2b0c85772", func := "carryover/carryoverlaw15.LaxHolds", spec := "laxHolds", inPlace := ["math.Float64frombits", "math.Float64bits"], unfollowed := true, recurses := true, apart := false, narrowed := true }
def LaxHoldsUptoSaid : Prop := laxHoldsUptoRow.holds Tryz.pinned (OpenSpec.upto laxHoldsSpec)

/-- 'carryoverlaw15.LaxChecks', WHERE WHAT IT READS IS OF BULK AT MOST 1048576: true; the input reads as it did. -/
def laxChecksUptoRow : OpenClaim := { program := "ytdghgmaoamjnlaagreat", sum := "63a38424e0aa4a7c63599d1b5c1b198a8e656e5261a85c86cd3585c2b0c85772", func := "carryover/carryoverlaw15.LaxChecks", spec := "laxChecks", inPlace := ["math.Float64frombits", "math.Float64bits"], unfollowed := true, recurses := true, apart := false, narrowed := true }
def LaxChecksUptoSaid : Prop := laxChecksUptoRow.holds Tryz.pinned (OpenSpec.upto laxChecksSpec)

/-- 'carryoverlaw15.LaxTells', WHERE WHAT IT READS IS OF BULK AT MOST 1048576: true; the input reads as it did. -/
def laxTellsUptoRow : OpenClaim := { program := "ytdghgmaoamjnlaagreat", sum := "63a38424e0aa4a7c63599d1b5c1b198a8e656e5261a85c86cd3585c2b0c85772", func := "carryover/carryoverlaw15.LaxTells", spec := "laxTells", inPlace := ["math.Float64frombits", "math.Float64bits"], unfollowed := true, recurses := true, apart := false, narrowed := true }
def LaxTellsUptoSaid : Prop := laxTellsUptoRow.holds Tryz.pinned (OpenSpec.upto laxTellsSpec)

/-- 'carryoverlaw15.LaxPrefix', WHERE WHAT IT READS IS OF BULK AT MOST 1048576: true; the input reads as it did. -/
def laxPrefixUptoRow : OpenClaim := { program := "ytdghgmaoamjnlaagreat", sum := "63a38424e0aa4a7c63599d1b5c1b198a8e656e5261a85c86cd3585c2b0c85772", func := "carryover/carryoverlaw15.LaxPrefix", spec := "laxPrefix", inPlace := ["math.Float64frombits", "math.Float64bits"], unfollowed := true, recurses := true, apart := false, narrowed := true }
def LaxPrefixUptoSaid : Prop := laxPrefixUptoRow.holds Tryz.pinned (OpenSpec.upto laxPrefixSpec)

/-- 'carryoverlaw13.EngineWith', WHERE WHAT IT READS IS OF BULK AT MOST 1048576: true; the input reads as it did. -/
def engineWithUptoRow : OpenClaim := { program := "ytdghgmaoamjnlaagreat", sum := "63a38424e0aa4a7c63599d1b5c1b198a8e656e5261a85c86cd3585c2b0c85772", func := "carryover/carryoverlaw13.EngineWith", spec := "engineWith", inPlace := ["math.Float64frombits", "math.Float64bits"], unfollowed := true, recurses := true, apart := false, narrowed := true }
def EngineWithUptoSaid : Prop := engineWithUptoRow.holds Tryz.pinned (OpenSpec.upto engineWithSpec)

/-- 'carryoverlaw14.HistoryChecks', WHERE WHAT IT READS IS OF BULK AT MOST 1048576: true; the input reads as it did. -/
def historyChecksUptoRow : OpenClaim := { program := "ytdghgmaoamjnlaagreat", sum := "63a38424e0aa4a7c63599d1b5c1b198a8e656e5261a85c86cd3585c2b0c85772", func := "carryover/carryoverlaw14.HistoryChecks", spec := "historyChecks", unfollowed := true, recurses := true, apart := false, narrowed := true }
def HistoryChecksUptoSaid : Prop := historyChecksUptoRow.holds Tryz.pinned (OpenSpec.upto historyChecksSpec)

/-- 'carryoverlaw12.ValueAfter', WHERE WHAT IT READS IS OF BULK AT MOST 1048576: true; the input reads as it did. -/
def valueAfterUptoRow : OpenClaim := { program := "ytdghgmaoamjnlaagreat", sum := "63a38424e0aa4a7c63599d1b5c1b198a8e656e5261a85c86cd3585c2b0c85772", func := "carryover/carryoverlaw12.ValueAfter", spec := "valueAfter", inPlace := ["math.Float64frombits", "math.Float64bits"], unfollowed := true, recurses := true, apart := false, narrowed := true }
def ValueAfterUptoSaid : Prop := valueAfterUptoRow.holds Tryz.pinned (OpenSpec.upto valueAfterSpec)

end Rows
end Go.Proofs.YtdghgmaoamjnlaaGreat
