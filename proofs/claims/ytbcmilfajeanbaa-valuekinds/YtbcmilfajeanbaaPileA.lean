/-
  Layer 4: Take; items in the making; the answers that the document fixes.
-/
import Derived.Test.YtbcmilfajeanbaaKit8All
import Derived.Test.YtbcmilfajeanbaaDel12All
namespace Go.Proofs.Ytbcmilfajeanbaa
open Go.RowKit Go.Sort

/-- None is ahead of the first one. -/
theorem HeapAt.first {w : World} {b g : Nat} {d : Array KI} (h : HeapAt w b g d) : ∀ y ∈ d.toList, y.lt d[0]! = false := by
  intro y hy
  obtain ⟨i, hi, rfl⟩ := List.getElem_of_mem hy
  have hi' : i < d.size := by simpa using hi
  have := h.heap.first KI.swo i hi'
  rw [getElem!_pos d i hi'] at this
  simpa using this
theorem first_mem {d : Array KI} (h : 0 < d.size) : d[0]! ∈ d.toList := by
  rw [getElem!_pos d 0 h]; simp
end Go.Proofs.Ytbcmilfajeanbaa
