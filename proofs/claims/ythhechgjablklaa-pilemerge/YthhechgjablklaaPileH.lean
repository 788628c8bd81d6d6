/-
  Layer 4: the library's heap over a pile's items: contracts.
-/
import Derived.Test.YthhechgjablklaaKI4
import Derived.Deep.RegionWith
namespace Go.Proofs.Ythhechgjablklaa
open Go.RowKit Go.Sort

/-- Block g holds a row of items with room for cap. -/
structure Row (w : World) (g cap : Nat) (d : Array KI) : Prop where
  lt : g < w.heap.size
  le : d.size ≤ cap
  max : d.size ≤ 1099511627776
  cmax : cap ≤ maxLen
  flt : ∀ i, i < d.size → w.cell? ⟨g, i * 2, none⟩ = some (.float .f64 d[i]!.b)
  val : ∀ i, i < d.size → w.cell? ⟨g, i * 2 + 1, none⟩ = some (.int .i64 d[i]!.v)
  there : ∀ j, j < cap * 2 → (w.cell? ⟨g, j, none⟩).isSome = true ∧ w.frozen? ⟨g, j, none⟩ = false

theorem less_any (g cap i j : Nat) (d : Array KI) (w : World) (h : Row w g cap d) (hi : i < d.size) (hj : j < d.size) :
    Calls Try.prog 151 #[.slice (some ⟨g, 0, none⟩) d.size cap, .int .i64 (i : Int), .int .i64 (j : Int)] w fun e w' => e = .returned (.bool (d[i]!.lt d[j]!)) ∧ Below w.heap.size w w' := by
  have f1 := h.flt i hi
  have f2 := h.flt j hj
  have v1 := h.val i hi
  have v2 := h.val j hj
  generalize d[i]! = x at *
  generalize d[j]! = y at *
  have hN := h.max
  have hle := h.le
  obtain ⟨n, hn⟩ : ∃ n, d.size = n := ⟨_, rfl⟩
  rw [hn] at hi hj hle hN ⊢
  have i1 : (i : Int) < (n : Int) := by omega
  have j1 : (j : Int) < (n : Int) := by omega
  have hC := fun w => icmp_any x.b y.b x.v y.v w x.ok.1 y.ok.1
  obtain ⟨c, hc⟩ : ∃ c, cmpN x.b x.v y.b y.v = c := ⟨_, rfl⟩
  rw [hc] at hC
  have hl : x.lt y = decide (c < 0) := by unfold KI.lt; rw [hc]
  rw [hl]
  clear hl hc hn h
  go_enter Try.func151, Try.ntmps151
  go_wp2
  go_region_with (go_at_call 28; refine (hC _).mono ?_; rintro e w1 ⟨rfl, rfl⟩)
  all_goals go_wp2
  all_goals go_ret
  all_goals exact ⟨rfl, (((Below.refl _ _).alloc (Nat.le_refl _) _).alloc (by simp) _).drew⟩

theorem Row.but {S : Nat → Prop} {w w' : World} {g cap : Nat} {d : Array KI} (h : Row w g cap d) (hb : But S w w') (hS : ¬ S g) : Row w' g cap d :=
  ⟨Nat.lt_of_lt_of_le h.lt hb.size, h.le, h.max, h.cmax, fun i hi => by rw [hb.cell (p := ⟨g, i * 2, none⟩) h.lt hS]; exact h.flt i hi,
   fun i hi => by rw [hb.cell (p := ⟨g, i * 2 + 1, none⟩) h.lt hS]; exact h.val i hi,
   fun j hj => by rw [hb.cell (p := ⟨g, j, none⟩) h.lt hS, hb.frozen (p := ⟨g, j, none⟩) h.lt hS]; exact h.there j hj⟩

/-- One item is laid over another one. -/
theorem Row.set {w : World} {g cap : Nat} {d : Array KI} (h : Row w g cap d) (i : Nat) (hi : i < d.size) (x : KI) :
    Row ((w.setCell ⟨g, i * 2, none⟩ (.float .f64 x.b)).setCell ⟨g, i * 2 + 1, none⟩ (.int .i64 x.v)) g cap (d.setIfInBounds i x) := by
  have s1 : (w.cell? ⟨g, i * 2, none⟩).isSome = true := by rw [h.flt i hi]; rfl
  have hne : ∀ a b : Nat, a ≠ b → (⟨g, a, none⟩ : Addr) ≠ ⟨g, b, none⟩ := fun a b hab e => by injection e; omega
  have s2 : ((w.setCell ⟨g, i * 2, none⟩ (.float .f64 x.b)).cell? ⟨g, i * 2 + 1, none⟩).isSome = true := by
    rw [World.cell?_setCell_other _ _ _ _ (hne _ _ (by omega)), h.val i hi]; rfl
  have gx : ∀ k, k < d.size → (d.setIfInBounds i x)[k]! = if k = i then x else d[k]! := fun k hk => by
    rw [getElem!_pos (d.setIfInBounds i x) k (by simpa using hk), getElem!_pos d k hk, Array.getElem_setIfInBounds (by simpa using hk)]
    by_cases e : i = k
    · subst e; simp
    · rw [if_neg e, if_neg (Ne.symm e)]
  refine ⟨by rw [World.size_setCell, World.size_setCell]; exact h.lt, by simpa using h.le, by simpa using h.max, h.cmax, fun k hk => ?_, fun k hk => ?_, fun j hj => ⟨?_, ?_⟩⟩
  · have hk' : k < d.size := by simpa using hk
    rw [gx k hk', World.cell?_setCell_other _ _ _ _ (hne _ _ (by omega))]
    by_cases e : k = i
    · subst e; rw [if_pos rfl, World.cell?_setCell_same' _ _ _ s1]
    · rw [if_neg e, World.cell?_setCell_other _ _ _ _ (hne _ _ (by omega))]; exact h.flt k hk'
  · have hk' : k < d.size := by simpa using hk
    rw [gx k hk']
    by_cases e : k = i
    · subst e; rw [if_pos rfl, World.cell?_setCell_same' _ _ _ s2]
    · rw [if_neg e, World.cell?_setCell_other _ _ _ _ (hne _ _ (by omega)), World.cell?_setCell_other _ _ _ _ (hne _ _ (by omega))]; exact h.val k hk'
  · by_cases e2 : j = i * 2 + 1
    · subst e2; rw [World.cell?_setCell_same' _ _ _ s2]; rfl
    · rw [World.cell?_setCell_other _ _ _ _ (hne _ _ (Ne.symm e2))]
      by_cases e1 : j = i * 2
      · subst e1; rw [World.cell?_setCell_same' _ _ _ s1]; rfl
      · rw [World.cell?_setCell_other _ _ _ _ (hne _ _ (Ne.symm e1))]; exact (h.there j hj).1
  · rw [World.frozen?_setCell, World.frozen?_setCell]; exact (h.there j hj).2

theorem but4 (w : World) (g a b c e : Nat) (v1 v2 v3 v4 : Value) : But (fun k => k = g) w (((((w.setCell ⟨g, a, none⟩ v1).setCell ⟨g, b, none⟩ v2).setCell ⟨g, c, none⟩ v3).setCell ⟨g, e, none⟩ v4).drew) :=
  (((((But.refl (fun k => k = g) w).set1 g a rfl v1).set1 g b rfl v2).set1 g c rfl v3).set1 g e rfl v4).drew

theorem swap_any (I J : Int) (g cap i j : Nat) (d : Array KI) (w : World) (hI : I = (i : Int)) (hJ : J = (j : Int)) (h : Row w g cap d) (hi : i < d.size) (hj : j < d.size) (hij : i ≠ j) :
    Calls Try.prog 152 #[.slice (some ⟨g, 0, none⟩) d.size cap, .int .i64 I, .int .i64 J] w fun e w' => e = .returned (.tuple #[]) ∧ Row w' g cap (swp d i j) ∧ But (fun k => k = g) w w' := by
  subst hI; subst hJ
  have hend : Row (((((w.setCell ⟨g, i * 2, none⟩ (.float .f64 d[j]!.b)).setCell ⟨g, i * 2 + 1, none⟩ (.int .i64 d[j]!.v)).setCell ⟨g, j * 2, none⟩ (.float .f64 d[i]!.b)).setCell ⟨g, j * 2 + 1, none⟩ (.int .i64 d[i]!.v)).drew) g cap (swp d i j) := by
    have h2 := (h.set i hi d[j]!).set j (by simpa using hj) d[i]!
    exact h2.but (S := fun _ => False) (But.refl _ _).drew id
  have f1 := h.flt i hi
  have f2 := h.flt j hj
  have v1 := h.val i hi
  have v2 := h.val j hj
  generalize d[i]! = x at *
  generalize d[j]! = y at *
  have hN := h.max
  have hle := h.le
  have z1 := (h.there (i * 2) (by omega)).2
  have z2 := (h.there (i * 2 + 1) (by omega)).2
  have z3 := (h.there (j * 2) (by omega)).2
  have z4 := (h.there (j * 2 + 1) (by omega)).2
  clear h
  generalize swp d i j = d2 at hend ⊢
  generalize d.size = n at *
  have i1 : (i : Int) < (n : Int) := by omega
  have j1 : (j : Int) < (n : Int) := by omega
  have hsf := run_store_float (P := Try.prog)
  have n1 : ¬ i * 2 = j * 2 := by omega
  have n2 : ¬ i * 2 = j * 2 + 1 := by omega
  have n3 : ¬ i * 2 + 1 = j * 2 := by omega
  have n4 : ¬ i * 2 + 1 = j * 2 + 1 := by omega
  go_enter Try.func152, Try.ntmps152
  go_wp2
  go_region
  go_wp2
  go_end0
  exact ⟨rfl, hend, but4 _ _ _ _ _ _ _ _ _ _⟩
end Go.Proofs.Ythhechgjablklaa
