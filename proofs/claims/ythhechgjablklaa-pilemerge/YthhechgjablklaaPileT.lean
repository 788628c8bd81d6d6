/-
  Layer 4: its calls: contracts.
-/
import Derived.Test.YthhechgjablklaaPileN
namespace Go.Proofs.Ythhechgjablklaa
open Go.RowKit Go.Sort

/-- A pile that is a heap. -/
structure HeapAt (w : World) (b g : Nat) (d : Array KI) : Prop where
  pile : ∃ cap, PileAt w b g cap d
  heap : Hp.Heap KI.lt d d.size 0
theorem HeapAt.but {S : Nat → Prop} {w w' : World} {b g : Nat} {d : Array KI} (h : HeapAt w b g d) (hb : But S w w') (h1 : ¬ S b) (h2 : ¬ S g) : HeapAt w' b g d := by
  obtain ⟨cap, hP⟩ := h.pile
  exact ⟨⟨cap, hP.but hb h1 h2⟩, h.heap⟩

theorem new_any (a : Option Addr) (n cap : Nat) (P : Nat → Nat) (V : Nat → Int) (w : World) (h : Items w a n P V) (hn : n ≤ 1099511627776) :
    Calls Try.prog 20 #[.slice a n cap] w fun e w' => ∃ b g d, e = .returned (.pointer (some ⟨b, 0, none⟩)) ∧ w.heap.size ≤ b ∧ w.heap.size ≤ g ∧ HeapAt w' b g d ∧ d.toList.Perm (canArr P V n n).toList ∧ Below w.heap.size w w' := by
  go_enter Try.func20, Try.ntmps20
  go_wp2_with (go_at_call 59; refine (canonical_any a n cap P V _ h hn).mono ?_; rintro e w1 ⟨g, rfl, hg, hR, hB⟩)
  have hs := canArr_size P V n n
  have hP : PileAt (w1.alloc (.cells #[.slice (some ⟨g, 0, none⟩) n n] 130)) w1.heap.size g n (canArr P V n n) := by
    refine ⟨?_, World.frozen?_alloc_new w1 _ _ _, ?_, by simp, hR.but (S := fun _ => False) ((But.refl _ _).alloc _) id⟩
    · rw [World.cell?_alloc_new, hs]; rfl
    · have := hR.lt; omega
  have hB1 : Below w.heap.size w (w1.alloc (.cells #[.slice (some ⟨g, 0, none⟩) n n] 130)) := hB.trans ((Below.refl _ _).alloc hB.size _)
  have hgb : g < w1.heap.size := hR.lt
  clear hR
  refine (init_any w1.heap.size g n (canArr P V n n) _ hP).mono ?_
  rintro e w2 ⟨rfl, d, hS, hH⟩
  go_wp2
  go_ret
  refine ⟨w1.heap.size, g, d, rfl, hB.size, hg, ⟨⟨n, hS.pile⟩, by rw [hS.size]; exact hH⟩, hS.perm, hB1.trans (hS.but.below hB1.size (fun k hk => by rw [hk]; exact hg))⟩

theorem count_any (b g : Nat) (d : Array KI) (w : World) (h : HeapAt w b g d) :
    Calls Try.prog 25 #[.pointer (some ⟨b, 0, none⟩)] w fun e w' => e = .returned (.int .i64 (d.size : Int)) ∧ w' = w := by
  obtain ⟨cap, hP⟩ := h.pile
  have hd := hP.hd
  go_enter Try.func25, Try.ntmps25
  go_wp2
  go_ret
  exact ⟨rfl, rfl⟩

theorem put_any (b g p : Nat) (v : Int) (d : Array KI) (w : World) (h : HeapAt w b g d) (hp : p < 18446744073709551616) (hs : d.size + 1 ≤ 1099511627776) :
    Calls Try.prog 21 #[.pointer (some ⟨b, 0, none⟩), .agg #[.float .f64 p, .int .i64 v]] w fun e w' => e = .returned (.tuple #[]) ∧
      ∃ g' d', HeapAt w' b g' d' ∧ d'.toList.Perm (mkKI p v :: d.toList) ∧ But (fun k => k = b ∨ k = g) w w' ∧ (g' = g ∨ w.heap.size ≤ g') := by
  have hPu : ∀ w1, But (fun _ => False) w w1 → Calls Try.prog 61 #[.iface 132 (.pointer (some ⟨b, 0, none⟩)), .iface 29 (.agg #[.float .f64 (cbits p), .int .i64 v])] w1 fun e w' => e = .returned (.tuple #[]) ∧
      ∃ g' d', HeapAt w' b g' d' ∧ d'.toList.Perm (mkKI p v :: d.toList) ∧ But (fun k => k = b ∨ k = g) w w' ∧ (g' = g ∨ w.heap.size ≤ g') := fun w1 hb => by
    obtain ⟨cap, hP⟩ := h.pile
    have := hpush_any b g cap d (mkKI p v) w1 (hP.but hb id id) hs h.heap
    rw [mkKI_b hp, mkKI_v hp] at this
    refine this.mono ?_
    rintro e w' ⟨rfl, g', cap', d', h1, h2, h3, h4, h5⟩
    exact ⟨rfl, g', d', ⟨⟨cap', h1⟩, h2⟩, h3, (hb.mono (fun _ _ e => e.elim)).trans h4, h5.imp id (Nat.le_trans hb.size)⟩
  clear h hs hp
  go_enter Try.func21, Try.ntmps21
  go_wp2
  go_region_with (first
    | (go_at_call 30; refine (icanon_any _ _ _).mono ?_; rintro e w1 ⟨rfl, hb1⟩)
    | (go_at_call 61; refine (hPu _ (((But.refl _ w).alloc _).drew.trans (But.of_below hb1))).mono ?_; rintro e w2 ⟨rfl, g', d', hq⟩))
  all_goals go_wp2
  all_goals go_end0
  all_goals exact ⟨rfl, g', d', hq⟩

theorem first_none (b g : Nat) (d : Array KI) (w : World) (h : HeapAt w b g d) (hd : d.size = 0) :
    Calls Try.prog 24 #[.pointer (some ⟨b, 0, none⟩)] w fun e w' => e = .returned (.tuple #[.agg #[.float .f64 0, .int .i64 0], .bool false]) ∧ Below w.heap.size w w' := by
  obtain ⟨cap, hP⟩ := h.pile
  have hc := hP.hd
  rw [hd] at hc
  have hb := hP.blt
  have hsf := run_store_float (P := Try.prog)
  clear h hP hd
  go_enter Try.func24, Try.ntmps24
  go_wp2
  exact bodyPost_ret (v := .tuple #[.agg #[.float .f64 0, .int .i64 0], .bool false]) (by simp [results, Try.results24, go_sem]) rfl ⟨rfl, (Below.refl _ _).alloc (Nat.le_refl _) _⟩
theorem first_some (b g : Nat) (d : Array KI) (w : World) (h : HeapAt w b g d) (hd : 0 < d.size) :
    Calls Try.prog 24 #[.pointer (some ⟨b, 0, none⟩)] w fun e w' => e = .returned (.tuple #[.agg #[.float .f64 d[0]!.b, .int .i64 d[0]!.v], .bool true]) ∧ Below w.heap.size w w' := by
  obtain ⟨cap, hP⟩ := h.pile
  have hc := hP.hd
  have hb := hP.blt
  have hg := hP.row.lt
  have f := hP.row.flt 0 hd
  have v := hP.row.val 0 hd
  generalize d[0]! = x at *
  generalize d.size = n at *
  have hne : ((n : Int) == 0) = false := by simp; omega
  have hsf := run_store_float (P := Try.prog)
  clear h hP
  go_enter Try.func24, Try.ntmps24
  go_wp2
  exact bodyPost_ret (v := .tuple #[.agg #[.float .f64 x.b, .int .i64 x.v], .bool true]) (by simp [results, Try.results24, go_sem]) rfl ⟨rfl, (Below.refl _ _).alloc (Nat.le_refl _) _⟩
end Go.Proofs.Ythhechgjablklaa
