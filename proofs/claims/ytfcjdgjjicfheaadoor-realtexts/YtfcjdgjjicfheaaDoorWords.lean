/-
  The table of the words, as a map that the call makes.
-/
import Derived.Test.YtfcjdgjjicfheaaDoorRealC
import Derived.Laws.IdiomRangeMap
import Derived.WideMake
namespace Go.Proofs.YtfcjdgjjicfheaaDoor
open Go.RowKit

theorem set_alloc (w : World) (a b : Obj) : ({ w.alloc a with heap := (w.alloc a).heap.setIfInBounds w.heap.size b } : World) = w.alloc b := by
  show ({ w with heap := (w.heap.push a).setIfInBounds w.heap.size b } : World) = { w with heap := w.heap.push b }
  congr 1
  apply Array.ext
  · simp
  · intro i h1 h2
    rw [Array.getElem_setIfInBounds (by simp at h2 ⊢; omega)]
    by_cases e : w.heap.size = i
    · subst e; simp
    · rw [if_neg e]
      have hi : i < w.heap.size := by simp at h2; omega
      rw [Array.getElem_push_lt hi, Array.getElem_push_lt hi]
theorem run_put_new {P : Program} (w : World) (mty kt et : TypeId) (es : Array MapEntry) (c : Nat) (s : ByteArray) (v : Value) (hm : P.underlying mty = some (.map kt et)) (hk : P.underlying kt = some .string)
    (hf : Instr.findNow .string (.string s) es.toList 0 = some none) :
    (Instr.mapUpdate mty (.map (some w.heap.size)) (.string s) v).run P (w.alloc (.map es c)) = .ok () (w.alloc (.map (es.push { key := .string s, val := v, born := c }) (c + 1))) := by
  have hb : (w.alloc (.map es c)).heap[w.heap.size]? = some (.map es c) := heap_alloc_new w _
  have hc : (Instr.checkKey false 10000 kt (.string s)).run P (w.alloc (.map es c)) = .ok () (w.alloc (.map es c)) := MapKept.run_checkKey (k := .string s) hk (by simp [MapKept.IsKey]) false 9999
  simp [Instr.mapUpdate, run_underlying hm, MapKept.run_getObj_map hb, hc, MapKept.run_findKey hk hf, MapKept.run_setObj_map _ hb, Result.andThen]
  exact set_alloc w _ _

def wE0 : MapEntry := { key := .string ⟨#[48]⟩, val := .int .u64 0, born := 0 }
def wE1 : MapEntry := { key := .string ⟨#[45, 48]⟩, val := .int .u64 9223372036854775808, born := 1 }
def wE2 : MapEntry := { key := .string ⟨#[105, 110, 102]⟩, val := .int .u64 9218868437227405312, born := 2 }
def wE3 : MapEntry := { key := .string ⟨#[45, 105, 110, 102]⟩, val := .int .u64 18442240474082181120, born := 3 }
def wE4 : MapEntry := { key := .string ⟨#[110, 97, 110]⟩, val := .int .u64 9221120237041090560, born := 4 }
def wES : Array MapEntry := #[wE0, wE1, wE2, wE3, wE4]
theorem words_any (w : World) : Calls Tryd.prog 20 #[] w fun e w' => e = .returned (.map (some w.heap.size)) ∧ w' = w.alloc (.map wES 5) := by
  have hmm := @run_makeMap Tryd.prog
  have h0 : (Instr.mapUpdate 42 (.map (some w.heap.size)) (.string ⟨#[48]⟩) (.int .u64 0)).run Tryd.prog (w.alloc (.map #[] 0)) = .ok () (w.alloc (.map #[wE0] 1)) := run_put_new w _ _ _ #[] 0 _ _ Tryd.underlying42 Tryd.underlying9 rfl
  have h1 : (Instr.mapUpdate 42 (.map (some w.heap.size)) (.string ⟨#[45, 48]⟩) (.int .u64 9223372036854775808)).run Tryd.prog (w.alloc (.map #[wE0] 1)) = .ok () (w.alloc (.map #[wE0, wE1] 2)) := run_put_new w _ _ _ #[wE0] 1 _ _ Tryd.underlying42 Tryd.underlying9 (by kernel_rfl)
  have h2 : (Instr.mapUpdate 42 (.map (some w.heap.size)) (.string ⟨#[105, 110, 102]⟩) (.int .u64 9218868437227405312)).run Tryd.prog (w.alloc (.map #[wE0, wE1] 2)) = .ok () (w.alloc (.map #[wE0, wE1, wE2] 3)) := run_put_new w _ _ _ #[wE0, wE1] 2 _ _ Tryd.underlying42 Tryd.underlying9 (by kernel_rfl)
  have h3 : (Instr.mapUpdate 42 (.map (some w.heap.size)) (.string ⟨#[45, 105, 110, 102]⟩) (.int .u64 18442240474082181120)).run Tryd.prog (w.alloc (.map #[wE0, wE1, wE2] 3)) = .ok () (w.alloc (.map #[wE0, wE1, wE2, wE3] 4)) := run_put_new w _ _ _ #[wE0, wE1, wE2] 3 _ _ Tryd.underlying42 Tryd.underlying9 (by kernel_rfl)
  have h4 : (Instr.mapUpdate 42 (.map (some w.heap.size)) (.string ⟨#[110, 97, 110]⟩) (.int .u64 9221120237041090560)).run Tryd.prog (w.alloc (.map #[wE0, wE1, wE2, wE3] 4)) = .ok () (w.alloc (.map wES 5)) := run_put_new w _ _ _ #[wE0, wE1, wE2, wE3] 4 _ _ Tryd.underlying42 Tryd.underlying9 (by kernel_rfl)
  go_enter Tryd.func20, Tryd.ntmps20
  go_wp2
  go_ret
  exact ⟨rfl, rfl⟩
end Go.Proofs.YtfcjdgjjicfheaaDoor
