/-
  No cell of these rows narrows 'for every input' (looked for: loops, veiled, ifaces, maps, wideKeys, modest, calm, conditions, laid).
  DERIVED. THE GIVEN ROWS OF THIS SEAT. 4 by the template 'for every input the law returns true; each argument reads behind the call as it read before'; 0 by the template 'total and deterministic' (their statements: YtclcmabohpoaiaaTotals.lean).
  GIVEN WITH THE SEED: the statements are not yours to turn. If you find one false, say at which input.
  Laid BY PROGRAM, IN A SANDBOX (cutbox-rows.mjs): the forced cells as the released guide's own fill.sh prints them over the translation a7c062b81f06067f… (all of the seat's roots in one cut). By AI agents, Wed Nov 11 2026. No macro, syntax, notation, axiom, sorry.
-/
import Derived.Test.YtclcmabohpoaiaaChecked
import GoSem.Claim
import GoSem.ClaimJoined
import GoSem.ClaimMapViews
import Derived.JoinedTies
import Derived.KernelRfl
namespace Go.Proofs.Ytclcmabohpoaiaa
/- THE CELL 'sum', in the pinned program and in every row, IS THE sha256 OF THE DUMP (.gsa) THAT YtclcmabohpoaiaaProg.lean LOADS. Nothing in Lean hashes anything: it is a label: what it is worth is what the hold of that sum in a sandbox is worth. -/
noncomputable def Try.pinned : Pinned := { name := "ytclcmabohpoaiaa", sum := "a7c062b81f06067f445cf977134209228ac6e61637aaf1dd5333561611ce8345", checked := Try.checked }
namespace Rows
def none {H : Type} : Left H := { results := [], args := [] }

/-- 'carryoverlaw08.MultiAlone': WHATEVER THE INPUT: true; the input reads as it did. -/
def multiAloneSpec : ChangeSpec := { name := "multiAlone", fn := fun _ => fun
  | [d1, d2] => { results := [.lit (.bool true)], args := [d1, d2] }
  | _ => none }
def multiAloneRow : OpenClaim := { program := "ytclcmabohpoaiaa", sum := "a7c062b81f06067f445cf977134209228ac6e61637aaf1dd5333561611ce8345", func := "carryover/carryoverlaw08.MultiAlone", spec := "multiAlone", inPlace := ["math.Float64frombits", "math.Float64bits"], unfollowed := true, recurses := true, apart := false }
def MultiAloneSaid : Prop := multiAloneRow.holds Try.pinned (OpenSpec.ofChange multiAloneSpec)

/-- ITS FALSE NEIGHBOUR: 'it returns false'. Refute it at one input. -/
def multiAloneWrong : ChangeSpec := { name := "multiAlone", fn := fun _ => fun
  | [d1, d2] => { results := [.lit (.bool false)], args := [d1, d2] }
  | _ => none }
def MultiAloneWrongFalsely : Prop := multiAloneRow.holds Try.pinned (OpenSpec.ofChange multiAloneWrong)

/-- 'carryoverlaw09.KfifoAlone': WHATEVER THE INPUT: true; the input reads as it did. -/
def kfifoAloneSpec : ChangeSpec := { name := "kfifoAlone", fn := fun _ => fun
  | [d1, d2] => { results := [.lit (.bool true)], args := [d1, d2] }
  | _ => none }
def kfifoAloneRow : OpenClaim := { program := "ytclcmabohpoaiaa", sum := "a7c062b81f06067f445cf977134209228ac6e61637aaf1dd5333561611ce8345", func := "carryover/carryoverlaw09.KfifoAlone", spec := "kfifoAlone", inPlace := ["math.Float64frombits", "math.Float64bits"], unfollowed := true, recurses := true, apart := false }
def KfifoAloneSaid : Prop := kfifoAloneRow.holds Try.pinned (OpenSpec.ofChange kfifoAloneSpec)

/-- ITS FALSE NEIGHBOUR: 'it returns false'. Refute it at one input. -/
def kfifoAloneWrong : ChangeSpec := { name := "kfifoAlone", fn := fun _ => fun
  | [d1, d2] => { results := [.lit (.bool false)], args := [d1, d2] }
  | _ => none }
def KfifoAloneWrongFalsely : Prop := kfifoAloneRow.holds Try.pinned (OpenSpec.ofChange kfifoAloneWrong)

/-- 'carryoverlaw09.KfifoFull': WHATEVER THE INPUT: true; the input reads as it did. -/
def kfifoFullSpec : ChangeSpec := { name := "kfifoFull", fn := fun _ => fun
  | [d1, d2] => { results := [.lit (.bool true)], args := [d1, d2] }
  | _ => none }
def kfifoFullRow : OpenClaim := { program := "ytclcmabohpoaiaa", sum := "a7c062b81f06067f445cf977134209228ac6e61637aaf1dd5333561611ce8345", func := "carryover/carryoverlaw09.KfifoFull", spec := "kfifoFull", unfollowed := true, recurses := true, apart := false }
def KfifoFullSaid : Prop := kfifoFullRow.holds Try.pinned (OpenSpec.ofChange kfifoFullSpec)

/-- ITS FALSE NEIGHBOUR: 'it returns false'. Refute it at one input. -/
def kfifoFullWrong : ChangeSpec := { name := "kfifoFull", fn := fun _ => fun
  | [d1, d2] => { results := [.lit (.bool false)], args := [d1, d2] }
  | _ => none }
def KfifoFullWrongFalsely : Prop := kfifoFullRow.holds Try.pinned (OpenSpec.ofChange kfifoFullWrong)

/-- 'carryovertop.CarryoverQueue': WHATEVER THE INPUT: true; the input reads as it did. -/
def carryoverQueueSpec : ChangeSpec := { name := "carryoverQueue", fn := fun _ => fun
  | [d1, d2] => { results := [.lit (.bool true)], args := [d1, d2] }
  | _ => none }
def carryoverQueueRow : OpenClaim := { program := "ytclcmabohpoaiaa", sum := "a7c062b81f06067f445cf977134209228ac6e61637aaf1dd5333561611ce8345", func := "carryover/carryovertop.CarryoverQueue", spec := "carryoverQueue", inPlace := ["math.Float64frombits", "math.Float64bits"], unfollowed := true, recurses := true, apart := false }
def CarryoverQueueSaid : Prop := carryoverQueueRow.holds Try.pinned (OpenSpec.ofChange carryoverQueueSpec)

/-- ITS FALSE NEIGHBOUR: 'it returns false'. Refute it at one input. -/
def carryoverQueueWrong : ChangeSpec := { name := "carryoverQueue", fn := fun _ => fun
  | [d1, d2] => { results := [.lit (.bool false)], args := [d1, d2] }
  | _ => none }
def CarryoverQueueWrongFalsely : Prop := carryoverQueueRow.holds Try.pinned (OpenSpec.ofChange carryoverQueueWrong)

/- THE SECOND FORM. 'bulk': how many values and letters a reading holds, each counted each time it is reached (what is shared counts as often as it is met; a slice's spare places count too). A statement '..UptoSaid' is the law's where the arguments, and the package variables that the reading takes, are together of bulk at most 1048576: NARROWER than '..Said'. Prove '..Said' where nothing that the law and all that it calls make is longer than what came in: it says more and counts as full. Else prove '..UptoSaid'. A law counts once. -/
mutual
def uptoBulk {H : Type} : DataW H → Nat
  | .lit (.string bytes) => bytes.length + 1
  | .lit _ => 1
  | .nil => 1
  | .ptr d => uptoBulk d + 1
  | .slice elems spare => uptoBulkAll elems + uptoBulkAll spare + 1
  | .agg parts => uptoBulkAll parts + 1
  | .iface _ d => uptoBulk d + 1
  | .map entries => uptoBulkEntries entries + 1
  | .held _ => 1
def uptoBulkAll {H : Type} : List (DataW H) → Nat
  | [] => 0
  | d :: r => uptoBulk d + uptoBulkAll r
def uptoBulkEntries {H : Type} : List (Lit × DataW H) → Nat
  | [] => 0
  | x :: r => uptoBulkEntry x + uptoBulkEntries r
def uptoBulkEntry {H : Type} : Lit × DataW H → Nat
  | (.string bytes, d) => bytes.length + uptoBulk d + 1
  | (_, d) => uptoBulk d + 1
 end
def uptoSmall : (H : Type) → List (DataW H) → Bool := fun _ ds => decide (uptoBulkAll ds ≤ 1048576)
def OpenSpec.upto (s : _root_.Go.ChangeSpec) : _root_.Go.OpenSpec := { _root_.Go.OpenSpec.ofChange s with cond := some uptoSmall }

/-- 'carryoverlaw08.MultiAlone', WHERE WHAT IT READS IS OF BULK AT MOST 1048576: true; the input reads as it did. -/
def multiAloneUptoRow : OpenClaim := { program := "ytclcmabohpoaiaa", sum := "a7c062b81f06067f445cf977134209228ac6e61637aaf1dd5333561611ce8345", func := "carryover/carryoverlaw08.MultiAlone", spec := "multiAlone", inPlace := ["math.Float64frombits", "math.Float64bits"], unfollowed := true, recurses := true, apart := false, narrowed := true }
def MultiAloneUptoSaid : Prop := multiAloneUptoRow.holds Try.pinned (OpenSpec.upto multiAloneSpec)

/-- 'carryoverlaw09.KfifoAlone', WHERE WHAT IT READS IS OF BULK AT MOST 1048576: true; the input reads as it did. -/
def kfifoAloneUptoRow : OpenClaim := { program := "ytclcmabohpoaiaa", sum := "a7c062b81f06067f445cf977134209228ac6e61637aaf1dd5333561611ce8345", func := "carryover/carryoverlaw09.KfifoAlone", spec := "kfifoAlone", inPlace := ["math.Float64frombits", "math.Float64bits"], unfollowed := true, recurses := true, apart := false, narrowed := true }
def KfifoAloneUptoSaid : Prop := kfifoAloneUptoRow.holds Try.pinned (OpenSpec.upto kfifoAloneSpec)

/-- 'carryoverlaw09.KfifoFull', WHERE WHAT IT READS IS OF BULK AT MOST 1048576: true; the input reads as it did. -/
def kfifoFullUptoRow : OpenClaim := { program := "ytclcmabohpoaiaa", sum := "a7c062b81f06067f445cf977134209228ac6e61637aaf1dd5333561611ce8345", func := "carryover/carryoverlaw09.KfifoFull", spec := "kfifoFull", unfollowed := true, recurses := true, apart := false, narrowed := true }
def KfifoFullUptoSaid : Prop := kfifoFullUptoRow.holds Try.pinned (OpenSpec.upto kfifoFullSpec)

/-- 'carryovertop.CarryoverQueue', WHERE WHAT IT READS IS OF BULK AT MOST 1048576: true; the input reads as it did. -/
def carryoverQueueUptoRow : OpenClaim := { program := "ytclcmabohpoaiaa", sum := "a7c062b81f06067f445cf977134209228ac6e61637aaf1dd5333561611ce8345", func := "carryover/carryovertop.CarryoverQueue", spec := "carryoverQueue", inPlace := ["math.Float64frombits", "math.Float64bits"], unfollowed := true, recurses := true, apart := false, narrowed := true }
def CarryoverQueueUptoSaid : Prop := carryoverQueueUptoRow.holds Try.pinned (OpenSpec.upto carryoverQueueSpec)

end Rows
end Go.Proofs.Ytclcmabohpoaiaa
