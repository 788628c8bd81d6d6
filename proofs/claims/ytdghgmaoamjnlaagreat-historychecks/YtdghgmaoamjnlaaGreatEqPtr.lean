/-
  Two pointers compared: the same one.
-/
import Derived.Test.YtdghgmaoamjnlaaGreatKNew9All
import Derived.LaidEqlPtr
namespace Go.Proofs.YtdghgmaoamjnlaaGreat
open Go.RowKit Go.Sort

theorem run_neq_ptr_same {P : Program} {tp te : TypeId} {j : TypeInfo} (a : Addr) (w : World) (hp : P.underlying tp = some (.pointer te)) (hte : P.info? te = some j) :
    (binOp .neq tp (.pointer (some a)) (.pointer (some a))).run P w = .ok (.bool false) w := by
  have h : ∀ d : Nat, (Op.equalIn (d + 1) tp (.pointer (some a)) (.pointer (some a))).run P w = .ok true w := fun d => by
    simp [Op.equalIn, run_underlying hp, sizeOf, typeInfo, hte, run_sameAddr_same]
  simp only [binOp]
  simp [Op.equal, Op.maxDepth, h 9999]
theorem run_neq_engine (a : Addr) (w : World) : (binOp .neq 26 (.pointer (some a)) (.pointer (some a))).run Tryz.prog w = .ok (.bool false) w := by
  have h : (Tryz.prog.info? 137).map (fun i => i.size) = some 12 := by kernel_rfl
  obtain ⟨j, hj, _⟩ := Option.map_eq_some_iff.1 h
  exact run_neq_ptr_same a w Tryz.underlying26 hj
end Go.Proofs.YtdghgmaoamjnlaaGreat
