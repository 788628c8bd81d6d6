/-
  Layer 4: one more item, one less: contracts.
-/
import Derived.Test.YthhechgjablklaaPileU
import Derived.Deep.AppendSrc
import Derived.Deep.Upon
import Derived.Laws.IdiomStrings
import Derived.Deep.RegionLaw
namespace Go.Proofs.Ythhechgjablklaa
open Go.RowKit Go.Sort

/-- A row's cells, one behind the other. -/
def cellOf (d : Array KI) (t : Nat) : Value := if t % 2 = 0 then .float .f64 d[t / 2]!.b else .int .i64 d[t / 2]!.v
def flat (d : Array KI) : List Value := (List.range (d.size * 2)).map (cellOf d)
theorem flat_length (d : Array KI) : (flat d).length = d.size * 2 := by simp [flat]
theorem flat_get (d : Array KI) {t : Nat} {u : Value} (h : (flat d)[t]? = some u) : t < d.size * 2 ∧ u = cellOf d t := by
  have ht : t < (flat d).length := (List.getElem?_eq_some_iff.1 h).1
  rw [flat_length] at ht
  refine ⟨ht, ?_⟩
  simp [flat, ht] at h
  exact h.symm
theorem Row.cell {w : World} {g cap : Nat} {d : Array KI} (h : Row w g cap d) {t : Nat} (ht : t < d.size * 2) : w.cell? ⟨g, t, none⟩ = some (cellOf d t) := by
  unfold cellOf
  by_cases e : t % 2 = 0
  · have := h.flt (t / 2) (by omega)
    rw [show t / 2 * 2 = t by omega] at this
    rw [if_pos e]; exact this
  · have := h.val (t / 2) (by omega)
    rw [show t / 2 * 2 + 1 = t by omega] at this
    rw [if_neg e]; exact this
theorem Row.ofCells {w : World} {g cap : Nat} {d : Array KI} (h1 : g < w.heap.size) (h2 : d.size ≤ cap) (h3 : d.size ≤ 1099511627776) (h4 : cap ≤ maxLen) (h5 : ∀ t, t < d.size * 2 → w.cell? ⟨g, t, none⟩ = some (cellOf d t))
    (h6 : ∀ j, j < cap * 2 → (w.cell? ⟨g, j, none⟩).isSome = true ∧ w.frozen? ⟨g, j, none⟩ = false) : Row w g cap d :=
  ⟨h1, h2, h3, h4, fun i hi => by rw [h5 (i * 2) (by omega)]; unfold cellOf; rw [if_pos (by omega), show i * 2 / 2 = i by omega],
   fun i hi => by rw [h5 (i * 2 + 1) (by omega)]; unfold cellOf; rw [if_neg (by omega), show (i * 2 + 1) / 2 = i by omega], h6⟩
theorem push_get (d : Array KI) (x : KI) {i : Nat} (h : i < d.size) : (d.push x)[i]! = d[i]! := by
  rw [getElem!_pos (d.push x) i (by simp; omega), getElem!_pos d i h, Array.getElem_push_lt h]
theorem push_last (d : Array KI) (x : KI) : (d.push x)[d.size]! = x := by
  rw [getElem!_pos (d.push x) d.size (by simp), Array.getElem_push_eq]
theorem cellOf_push (d : Array KI) (x : KI) {t : Nat} (h : t < d.size * 2) : cellOf (d.push x) t = cellOf d t := by
  unfold cellOf; rw [push_get d x (by omega)]
theorem cellOf_last (d : Array KI) (x : KI) : cellOf (d.push x) (d.size * 2) = .float .f64 x.b ∧ cellOf (d.push x) (d.size * 2 + 1) = .int .i64 x.v := by
  unfold cellOf
  rw [if_pos (by omega), if_neg (by omega), show d.size * 2 / 2 = d.size by omega, show (d.size * 2 + 1) / 2 = d.size by omega, push_last]
  exact ⟨rfl, rfl⟩

theorem info_item : ∃ i : TypeInfo, Try.prog.info? 29 = some i ∧ i.zero = some (.agg #[.float .f64 0, .int .i64 0]) ∧ i.size = 2 ∧ i.bytes = 16 := by
  have h : (Try.prog.info? 29).map (fun i => (i.zero, i.size, i.bytes)) = some (some (.agg #[.float .f64 0, .int .i64 0]), 2, 16) := by kernel_rfl
  obtain ⟨i, hi, he⟩ := Option.map_eq_some_iff.1 h
  simp only [Prod.mk.injEq] at he
  exact ⟨i, hi, he.1, he.2.1, he.2.2⟩

theorem row_append (g cap a : Nat) (d : Array KI) (x : KI) (w : World) (h : Row w g cap d) (hx1 : w.cell? ⟨a, 0, none⟩ = some (.float .f64 x.b)) (hx2 : w.cell? ⟨a, 1, none⟩ = some (.int .i64 x.v)) (hs : d.size + 1 ≤ 1099511627776) :
    ∃ g' cap' w', (Builtin.append_ #[128, 128] 128 #[.slice (some ⟨g, 0, none⟩) d.size cap, .slice (some ⟨a, 0, none⟩) 1 1]).run Try.prog w = .ok (.slice (some ⟨g', 0, none⟩) (d.size + 1) cap') w' ∧
      Row w' g' cap' (d.push x) ∧ But (fun k => k = g) w w' ∧ (g' = g ∨ w.heap.size ≤ g') := by
  obtain ⟨i, hi, hz, hsz, hby⟩ := info_item
  have hsrc : Src Try.prog i.size 128 (.slice (some ⟨a, 0, none⟩) 1 1) 1 [.float .f64 x.b, .int .i64 x.v] w := by
    rw [hsz]
    refine Src.ofSlice w Try.underlying128 _ 1 1 _ rfl (fun j u hu => ?_) (fun u hu => by simp at hu; rcases hu with rfl | rfl <;> rfl)
    rw [Addr.add_lit]
    rcases j with _ | _ | j
    · simp at hu; subst hu; exact hx1
    · simp at hu; subst hu; exact hx2
    · simp at hu
  by_cases hroom : d.size + 1 ≤ cap
  · have hin : ∀ j, j < 2 → 0 + d.size * i.size + j < cap * 2 := fun j hj => by rw [hsz]; omega
    have hr := run_append_room_src (P := Try.prog) w 128 128 128 29 i Try.underlying128 hi g 0 d.size cap _ 1 _ hsrc hroom (fun j hj => (h.there _ (hin j hj)).1) (fun j hj => (h.there _ (hin j hj)).2)
    rw [show 0 + d.size * i.size = d.size * 2 by rw [hsz]; omega] at hr
    have hne : ∀ p q : Nat, p ≠ q → (⟨g, p, none⟩ : Addr) ≠ ⟨g, q, none⟩ := fun p q hpq e => by injection e; omega
    have t1 := (h.there (d.size * 2) (by omega)).1
    have t2 : ((w.setCell ⟨g, d.size * 2, none⟩ (.float .f64 x.b)).cell? ⟨g, d.size * 2 + 1, none⟩).isSome = true := by
      rw [World.cell?_setCell_other _ _ _ _ (hne _ _ (by omega))]; exact (h.there _ (by omega)).1
    refine ⟨g, cap, _, hr, ?_, ((But.refl (fun k => k = g) w).set1 g _ rfl _).set1 g _ rfl _, .inl rfl⟩
    show Row ((w.setCell ⟨g, d.size * 2, none⟩ (.float .f64 x.b)).setCell ⟨g, d.size * 2 + 1, none⟩ (.int .i64 x.v)) g cap (d.push x)
    refine Row.ofCells (by rw [World.size_setCell, World.size_setCell]; exact h.lt) (by simpa using hroom) (by simpa using hs) h.cmax (fun t ht => ?_) (fun j hj => ⟨?_, by rw [World.frozen?_setCell, World.frozen?_setCell]; exact (h.there j hj).2⟩)
    · have ht' : t < (d.size + 1) * 2 := by simpa using ht
      by_cases e2 : t = d.size * 2 + 1
      · subst e2; rw [World.cell?_setCell_same' _ _ _ t2, (cellOf_last d x).2]
      · rw [World.cell?_setCell_other _ _ _ _ (hne _ _ (Ne.symm e2))]
        by_cases e1 : t = d.size * 2
        · subst e1; rw [World.cell?_setCell_same' _ _ _ t1, (cellOf_last d x).1]
        · rw [World.cell?_setCell_other _ _ _ _ (hne _ _ (Ne.symm e1)), cellOf_push d x (by omega)]; exact h.cell (by omega)
    · by_cases e2 : j = d.size * 2 + 1
      · subst e2; rw [World.cell?_setCell_same' _ _ _ t2]; rfl
      · rw [World.cell?_setCell_other _ _ _ _ (hne _ _ (Ne.symm e2))]
        by_cases e1 : j = d.size * 2
        · subst e1; rw [World.cell?_setCell_same' _ _ _ t1]; rfl
        · rw [World.cell?_setCell_other _ _ _ _ (hne _ _ (Ne.symm e1))]; exact (h.there j hj).1
  · have hold : (Builtin.firstCells i.size d.size (.slice (some ⟨g, 0, none⟩) d.size cap)).run Try.prog w.drew = .ok (flat d).toArray w.drew :=
      run_firstCells_some w.drew i.size d.size ⟨g, 0, none⟩ d.size cap (flat d) (by rw [flat_length, hsz]) (fun j u hu => by
        obtain ⟨hj, rfl⟩ := flat_get d hu
        rw [Addr.add_lit, Nat.zero_add]; exact h.cell hj)
    have hg : cap < d.size + 1 := by omega
    have hmx : d.size + 1 ≤ maxLen := by unfold maxLen; omega
    have hr := run_append_grow_src (P := Try.prog) w 128 128 128 29 i _ Try.underlying128 hi hz (some ⟨g, 0, none⟩) d.size cap (flat d) hold _ 1 _ hsrc hg (by omega) (growslice_fits hg (by rw [hby]; omega))
    have hge := grownCap_ge w (d.size + 1) cap 29
    have hcm := grownCap_le_maxLen w (d.size + 1) cap 29 hmx
    generalize grownCap w (d.size + 1) cap 29 = C at hr hge hcm
    refine ⟨w.heap.size, C, _, hr, ?_, ?_, .inr (Nat.le_refl _)⟩
    · have hc : ∀ j, (w.drew.alloc (.cells ((flat d ++ [Value.float .f64 x.b, Value.int .i64 x.v]).toArray ++ Builtin.zeroCells (Value.agg #[.float .f64 0, .int .i64 0]).cells (C - (d.size + 1))) 29)).cell? ⟨w.heap.size, j, none⟩ =
          ((flat d ++ [Value.float .f64 x.b, Value.int .i64 x.v]).toArray ++ Builtin.zeroCells (Value.agg #[.float .f64 0, .int .i64 0]).cells (C - (d.size + 1)))[j]? := fun j => World.cell?_alloc_new w.drew _ _ j
      refine Row.ofCells (by simp) (by simpa using hge) (by simpa using hs) hcm (fun t ht => ?_) (fun j hj => ⟨?_, World.frozen?_alloc_new w.drew _ _ _⟩)
      · have ht' : t < (d.size + 1) * 2 := by simpa using ht
        rw [hc, Array.getElem?_append_left (by simp [flat_length]; omega)]
        by_cases e : t < d.size * 2
        · rw [cellOf_push d x e, List.getElem?_toArray, List.getElem?_append_left (by rw [flat_length]; exact e)]
          simp [flat, e]
        · have : t = d.size * 2 ∨ t = d.size * 2 + 1 := by omega
          rcases this with rfl | rfl
          · rw [(cellOf_last d x).1, List.getElem?_toArray, List.getElem?_append_right (by rw [flat_length]; omega), flat_length]; simp
          · rw [(cellOf_last d x).2, List.getElem?_toArray, List.getElem?_append_right (by rw [flat_length]; omega), flat_length]; simp
      · rw [hc]
        have : j < ((flat d ++ [Value.float .f64 x.b, Value.int .i64 x.v]).toArray ++ Builtin.zeroCells (Value.agg #[.float .f64 0, .int .i64 0]).cells (C - (d.size + 1))).size := by
          rw [Array.size_append, size_zeroCells]
          simp [flat_length, Value.cells]
          omega
        rw [Array.getElem?_eq_getElem this]; rfl
    · exact But.of_below ⟨rfl, rfl, rfl, by simp, fun k hk => Below.heap_alloc w.drew _ k hk⟩

theorem assert_item (v : Value) (w : World) : (Instr.typeAssert (.iface 29 v) 20 29 false).run Try.prog w = .ok v w := by kernel_rfl

theorem pushM_any (b g cap : Nat) (d : Array KI) (x : KI) (w : World) (h : PileAt w b g cap d) (hs : d.size + 1 ≤ 1099511627776) :
    Calls Try.prog 154 #[.pointer (some ⟨b, 0, none⟩), .iface 29 (.agg #[.float .f64 x.b, .int .i64 x.v])] w fun e w' => e = .returned (.tuple #[]) ∧ ∃ g' cap', PileAt w' b g' cap' (d.push x) ∧ But (fun k => k = b ∨ k = g) w w' ∧ (g' = g ∨ w.heap.size ≤ g') := by
  have hW : But (fun _ => False) w (w.alloc (boxI x.b x.v)).drew := ((But.refl _ w).alloc _).drew
  have hP1 := h.but hW id id
  obtain ⟨g', cap', w', hrun, hrow, hbut, hg'⟩ := row_append g cap w.heap.size d x (w.alloc (boxI x.b x.v)).drew hP1.row (World.cell?_alloc_new w _ _ 0) (World.cell?_alloc_new w _ _ 1) hs
  have hsz : (w.alloc (boxI x.b x.v)).drew.heap.size = w.heap.size + 1 := by simp
  rw [hsz] at hg'
  have hd1 := hP1.hd
  have hd0 := h.hd
  have hbb : But (fun k => k = g) w w' := (hW.mono (fun _ _ e => e.elim)).trans hbut
  have hc2 : w'.cell? ⟨b, 0, none⟩ = some (.slice (some ⟨g, 0, none⟩) d.size cap) := by rw [hbb.cell (p := ⟨b, 0, none⟩) h.blt h.ne]; exact h.hd
  have hf2 : w'.frozen? ⟨b, 0, none⟩ = false := by rw [hbb.frozen (p := ⟨b, 0, none⟩) h.blt h.ne]; exact h.fz
  have hne' : b ≠ g' := by
    rcases hg' with e | e
    · rw [e]; exact h.ne
    · have := h.blt; omega
  have hend : PileAt (w'.setCell ⟨b, 0, none⟩ (.slice (some ⟨g', 0, none⟩) (d.size + 1) cap')) b g' cap' (d.push x) := by
    refine ⟨?_, by rw [World.frozen?_setCell]; exact hf2, hne', by rw [World.size_setCell]; exact Nat.lt_of_lt_of_le h.blt hbb.size, ?_⟩
    · rw [World.cell?_setCell_same' _ _ _ (by rw [hc2]; rfl)]; simp
    · exact hrow.but ((But.refl (fun k => k = b) w').set1 b 0 rfl _) (Ne.symm hne')
  have hbend : But (fun k => k = b ∨ k = g) w (w'.setCell ⟨b, 0, none⟩ (.slice (some ⟨g', 0, none⟩) (d.size + 1) cap')) := (hbb.mono (fun _ _ e => .inr e)).set1 b 0 (.inl rfl) _
  have hgg : g' = g ∨ w.heap.size ≤ g' := by omega
  clear hsz hg' hbut hbb hrow hP1 hW h
  have hta := assert_item
  have HR : Hid (∀ _ : Unit, (Builtin.append_ #[128, 128] 128 #[.slice (some ⟨g, 0, none⟩) d.size cap, .slice (some ⟨w.heap.size, 0, none⟩) 1 1]).run Try.prog (w.alloc (boxI x.b x.v)).drew = .ok (.slice (some ⟨g', 0, none⟩) (d.size + 1) cap') w') := fun _ => hrun
  clear hrun
  go_enter Try.func154, Try.ntmps154
  go_wp2
  go_region_law (refine step_append rfl (.tmp 7) (.tmp 10) 128 rfl _ _ (by simp [Act.eval]) (by simp [Act.eval]) _ _ (HR ()) ?_)
  all_goals go_wp2
  all_goals go_end0
  all_goals exact ⟨rfl, g', cap', hend, hbend, hgg⟩

theorem pop_get (d : Array KI) {i : Nat} (h : i + 1 < d.size) : d.pop[i]! = d[i]! := by
  rw [getElem!_pos d.pop i (by simp; omega), getElem!_pos d i (by omega), Array.getElem_pop]
theorem Row.pop {w : World} {g cap : Nat} {d : Array KI} (h : Row w g cap d) : Row w g cap d.pop :=
  ⟨h.lt, by have := h.le; simp; omega, by have := h.max; simp; omega, h.cmax, fun i hi => by simp at hi; rw [pop_get d (by omega)]; exact h.flt i (by omega), fun i hi => by simp at hi; rw [pop_get d (by omega)]; exact h.val i (by omega), h.there⟩

theorem popM_any (b g cap n : Nat) (d : Array KI) (w : World) (h : PileAt w b g cap d) (hn : d.size = n + 1) :
    Calls Try.prog 153 #[.pointer (some ⟨b, 0, none⟩)] w fun e w' => e = .returned (.iface 29 (.agg #[.float .f64 d[n]!.b, .int .i64 d[n]!.v])) ∧ PileAt w' b g cap d.pop ∧ But (fun k => k = b) w w' := by
  have f1 := h.row.flt n (by omega)
  have v1 := h.row.val n (by omega)
  have hd := h.hd
  have hfz := h.fz
  have hle := h.row.le
  have hmax := h.row.max
  rw [hn] at hle hmax hd
  have hend : ∀ o, PileAt ((w.setCell ⟨b, 0, none⟩ (.slice (some ⟨g, 0, none⟩) n cap)).alloc o) b g cap d.pop ∧ But (fun k => k = b) w ((w.setCell ⟨b, 0, none⟩ (.slice (some ⟨g, 0, none⟩) n cap)).alloc o) := fun o => by
    have hb : But (fun k => k = b) w (w.setCell ⟨b, 0, none⟩ (.slice (some ⟨g, 0, none⟩) n cap)) := (But.refl (fun k => k = b) w).set1 b 0 rfl _
    have hP : PileAt (w.setCell ⟨b, 0, none⟩ (.slice (some ⟨g, 0, none⟩) n cap)) b g cap d.pop := by
      refine ⟨?_, by rw [World.frozen?_setCell]; exact h.fz, h.ne, by rw [World.size_setCell]; exact h.blt, h.row.pop.but hb (Ne.symm h.ne)⟩
      rw [World.cell?_setCell_same' _ _ _ (by rw [h.hd]; rfl)]
      simp [hn]
    exact ⟨hP.but (S := fun _ => False) ((But.refl _ _).alloc o) id id, hb.alloc o⟩
  generalize d[n]! = x at *
  have hb := h.blt
  clear h hn
  have hsf := run_store_float (P := Try.prog)
  go_enter Try.func153, Try.ntmps153
  go_wp2
  go_ret
  exact ⟨rfl, (hend _).1, (hend _).2⟩
end Go.Proofs.Ythhechgjablklaa
