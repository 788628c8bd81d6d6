/-
  Layer 4: Take; items in the making; the answers that the document fixes.
-/
import Derived.Test.YtbcmilfajeanbaaGreatFlat4All
namespace Go.Proofs.YtbcmilfajeanbaaGreat
open Go.RowKit Go.Sort

theorem take_none (b g : Nat) (d : Array KI) (w : World) (h : HeapAt w b g d) (hd : d.size = 0) :
    Calls Tryz.prog 175 #[.pointer (some ⟨b, 0, none⟩)] w fun e w' => e = .returned (.tuple #[.agg #[.float .f64 0, .int .i64 0], .bool false]) ∧ Below w.heap.size w w' := by
  obtain ⟨cap, hP⟩ := h.pile
  have hc := hP.hd
  rw [hd] at hc
  have hb := hP.blt
  have hsf := run_store_float (P := Tryz.prog)
  clear h hP hd
  go_enter Tryz.func175, Tryz.ntmps175
  go_wp2
  exact bodyPost_ret (v := .tuple #[.agg #[.float .f64 0, .int .i64 0], .bool false]) (by simp [results, Tryz.results175, go_sem]) rfl ⟨rfl, (Below.refl _ _).alloc (Nat.le_refl _) _⟩
theorem take_some (b g : Nat) (d : Array KI) (w : World) (h : HeapAt w b g d) (hd : 0 < d.size) :
    Calls Tryz.prog 175 #[.pointer (some ⟨b, 0, none⟩)] w fun e w' => e = .returned (.tuple #[.agg #[.float .f64 d[0]!.b, .int .i64 d[0]!.v], .bool true]) ∧
      ∃ d', HeapAt w' b g d' ∧ d.toList.Perm (d[0]! :: d'.toList) ∧ But (fun k => k = b ∨ k = g) w w' := by
  obtain ⟨cap, hP⟩ := h.pile
  obtain ⟨n, hn⟩ : ∃ n, d.size = n + 1 := ⟨d.size - 1, by omega⟩
  have hb0 : But (fun _ => False) w (w.alloc (.cells #[.float .f64 0, .int .i64 0] 40)) := (But.refl _ w).alloc _
  have hpop := hpop_any b g cap n d _ (hP.but hb0 id id) hn h.heap
  have hc := hP.hd
  rw [hn] at hc
  have hb := hP.blt
  have hg := hP.row.lt
  have hsf := run_store_float (P := Tryz.prog)
  have hta := assert_item
  generalize d[0]! = x at *
  clear h hd hP hn
  have hne : ((n : Int) + 1 == 0) = false := by simp; omega
  go_enter Tryz.func175, Tryz.ntmps175
  go_wp2_with fail
  refine hpop.mono ?_
  rintro e w2 ⟨rfl, d', hP', hH', hperm, hbut⟩
  have hz : w.heap.size < w2.heap.size := by have := hbut.size; simp at this; omega
  have hbb : But (fun k => k = b ∨ k = g) w w2 := (hb0.mono (fun _ _ e => e.elim)).trans hbut
  have hnS : ¬ (w.heap.size = b ∨ w.heap.size = g) := by omega
  have c0 : w2.cell? ⟨w.heap.size, 0, none⟩ = some (.float .f64 0) := by rw [hbut.cell (p := ⟨w.heap.size, 0, none⟩) (by simp) hnS, World.cell?_alloc_new]; rfl
  have c1 : w2.cell? ⟨w.heap.size, 1, none⟩ = some (.int .i64 0) := by rw [hbut.cell (p := ⟨w.heap.size, 1, none⟩) (by simp) hnS, World.cell?_alloc_new]; rfl
  have z0 : w2.frozen? ⟨w.heap.size, 0, none⟩ = false := by rw [hbut.frozen (p := ⟨w.heap.size, 0, none⟩) (by simp) hnS, World.frozen?_alloc_new]
  have z1 : w2.frozen? ⟨w.heap.size, 1, none⟩ = false := by rw [hbut.frozen (p := ⟨w.heap.size, 1, none⟩) (by simp) hnS, World.frozen?_alloc_new]
  have hfin : ∃ d', HeapAt ((w2.setCell ⟨w.heap.size, 0, none⟩ (.float .f64 x.b)).setCell ⟨w.heap.size, 1, none⟩ (.int .i64 x.v)) b g d' ∧ d.toList.Perm (x :: d'.toList) ∧ But (fun k => k = b ∨ k = g) w ((w2.setCell ⟨w.heap.size, 0, none⟩ (.float .f64 x.b)).setCell ⟨w.heap.size, 1, none⟩ (.int .i64 x.v)) := by
    have hb2 : But (fun k => k = w.heap.size) w2 ((w2.setCell ⟨w.heap.size, 0, none⟩ (.float .f64 x.b)).setCell ⟨w.heap.size, 1, none⟩ (.int .i64 x.v)) := ((But.refl (fun k => k = w.heap.size) w2).set1 w.heap.size 0 rfl _).set1 w.heap.size 1 rfl _
    refine ⟨d', ⟨⟨cap, hP'.but hb2 (by omega) (by omega)⟩, hH'⟩, hperm, hbb.then hb2 (fun i hi e => by omega)⟩
  clear hpop hP' hH' hperm hbut hbb hb0
  go_wp2
  exact bodyPost_ret (v := .tuple #[.agg #[.float .f64 x.b, .int .i64 x.v], .bool true]) (by simp [results, Tryz.results175, go_sem, c0, c1]) rfl ⟨rfl, hfin⟩

/-- None is ahead of the first one. -/
theorem HeapAt.first {w : World} {b g : Nat} {d : Array KI} (h : HeapAt w b g d) : ∀ y ∈ d.toList, y.lt d[0]! = false := by
  intro y hy
  obtain ⟨i, hi, rfl⟩ := List.getElem_of_mem hy
  have hi' : i < d.size := by simpa using hi
  have := h.heap.first KI.swo i hi'
  rw [getElem!_pos d i hi'] at this
  simpa using this
theorem first_mem {d : Array KI} (h : 0 < d.size) : d[0]! ∈ d.toList := by
  rw [getElem!_pos d 0 h]; simp
end Go.Proofs.YtbcmilfajeanbaaGreat
