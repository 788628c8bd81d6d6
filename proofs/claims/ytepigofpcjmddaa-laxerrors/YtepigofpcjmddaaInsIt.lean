/-
  slices.SortFunc at this program: a contract of the library, applied.
-/
import Derived.Shelf.SlSortCmp.Insertion1
import Derived.Test.YtepigofpcjmddaaProg
namespace Go.Proofs
open Go.Shelf
def Try.insIt_ren : Go.Shelf.Ren := ⟨fun | 20 => 150 | n => n, fun | 24 => 3 | 22 => 56 | 3 => 3 | 25 => 85 | 4 => 4 | 0 => 0 | n => n, fun | n => n⟩
theorem Try.insIt : Go.Proofs.SlLaysF.n20 Try.prog Try.insIt_ren := {
  mixed := by kernel_rfl
  f20 := ⟨Try.f150.name, by decide, Try.func150.trans (congrArg some (by kernel_rfl))⟩
  t0 := Try.underlying0
  a0 := Try.isAgg0
  z0 := Try.sizeOf0
  v0 := Try.zeroValue0
  t3 := Try.underlying3
  a3 := Try.isAgg3
  z3 := Try.sizeOf3
  v3 := Try.zeroValue3
  t4 := Try.underlying4
  a4 := Try.isAgg4
  z4 := Try.sizeOf4
  v4 := Try.zeroValue4
  t22 := Try.underlying56
  a22 := Try.isAgg56
  z22 := Try.sizeOf56
  v22 := Try.zeroValue56
  a24 := Try.isAgg3
  z24 := Try.sizeOf3
  t25 := Try.underlying85
  a25 := Try.isAgg85
  z25 := Try.sizeOf85
  v25 := Try.zeroValue85 }
end Go.Proofs
