/-
  Layer 4's work: Pile.All; rows of items read as an argument.
-/
import Derived.Test.YtogacknpkoiokaaIns4
namespace Go.Proofs.Ytogacknpkoiokaa
open Go.RowKit Go.Sort

theorem Row.items {w : World} {g cap : Nat} {d : Array KI} (h : Row w g cap d) : Items w (some ⟨g, 0, none⟩) d.size (fun i => d[i]!.b) (fun i => d[i]!.v) :=
  fun i hi => ⟨g, rfl, h.lt, h.flt i hi, h.val i hi, d[i]!.ok.1⟩
theorem canArr_self (d : Array KI) : (canArr (fun i => d[i]!.b) (fun i => d[i]!.v) d.size d.size).toList = d.toList := by
  refine List.ext_getElem (by simp [canArr]) ?_
  intro i h1 h2
  have hi : i < d.size := by simpa using h2
  simp [canArr, hi, mkKI_self]
theorem all_any (b g : Nat) (d : Array KI) (w : World) (h : HeapAt w b g d) :
    Calls Try.prog 22 #[.pointer (some ⟨b, 0, none⟩)] w fun e w' => ∃ g', e = .returned (.slice (some ⟨g', 0, none⟩) d.size d.size) ∧ w.heap.size ≤ g' ∧ Row w' g' d.size (srt d.toList).toArray ∧ Below w.heap.size w w' := by
  obtain ⟨cap, hP⟩ := h.pile
  have hc := hP.hd
  have hbl := hP.blt
  have hS := hidd (sorted_any (some ⟨g, 0, none⟩) d.size cap _ _ w hP.row.items hP.row.max)
  rw [canArr_self] at hS
  generalize (srt d.toList).toArray = s at *
  generalize d.size = n at *
  clear h hP
  go_enter Try.func22, Try.ntmps22
  go_wp2_with fail
  refine hS.out.mono ?_
  rintro e w1 ⟨g', rfl, hg, hR, hB⟩
  have HR := hidd hR
  clear hR
  go_wp2
  go_ret
  exact ⟨g', rfl, hg, HR.out, hB⟩
end Go.Proofs.Ytogacknpkoiokaa
