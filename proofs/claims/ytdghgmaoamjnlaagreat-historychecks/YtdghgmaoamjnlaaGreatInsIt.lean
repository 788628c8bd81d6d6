/-
  slices.SortFunc at this program: a contract of the library, applied.
-/
import Derived.Shelf.SlSortCmp.Insertion1
import Derived.Test.YtdghgmaoamjnlaaGreatProg
namespace Go.Proofs
open Go.Shelf
def Tryz.insIt_ren : Go.Shelf.Ren := ⟨fun | 20 => 151 | n => n, fun | 24 => 3 | 22 => 90 | 3 => 3 | 25 => 171 | 4 => 4 | 0 => 0 | n => n, fun | n => n⟩
theorem Tryz.insIt : Go.Proofs.SlLaysF.n20 Tryz.prog Tryz.insIt_ren := {
  mixed := by kernel_rfl
  f20 := ⟨Tryz.f151.name, by decide, Tryz.func151.trans (congrArg some (by kernel_rfl))⟩
  t0 := Tryz.underlying0
  a0 := Tryz.isAgg0
  z0 := Tryz.sizeOf0
  v0 := Tryz.zeroValue0
  t3 := Tryz.underlying3
  a3 := Tryz.isAgg3
  z3 := Tryz.sizeOf3
  v3 := Tryz.zeroValue3
  t4 := Tryz.underlying4
  a4 := Tryz.isAgg4
  z4 := Tryz.sizeOf4
  v4 := Tryz.zeroValue4
  t22 := Tryz.underlying90
  a22 := Tryz.isAgg90
  z22 := Tryz.sizeOf90
  v22 := Tryz.zeroValue90
  a24 := Tryz.isAgg3
  z24 := Tryz.sizeOf3
  t25 := Tryz.underlying171
  a25 := Tryz.isAgg171
  z25 := Tryz.sizeOf171
  v25 := Tryz.zeroValue171 }
end Go.Proofs
