/-
  Layer 5's law: are two values the same? The call returns true.
-/
import Derived.Test.YtogacknpkoiokaaSame5
import Derived.Test.YtogacknpkoiokaaWrite5
import Derived.Test.YtogacknpkoiokaaBox5
namespace Go.Proofs.Ytogacknpkoiokaa
open Go.RowKit Go.Sort

/-- A value of the program's in a box; one of the document's. -/
def VBox (w : World) (p : Nat) (x : Int) (n : Nat) (L : List KI) : Prop := p < w.heap.size ∧ w.cell? ⟨p, 0, none⟩ = some (.int .i64 x) ∧ ∃ a cap, w.cell? ⟨p, 1, none⟩ = some (.slice a n cap) ∧ SlAt 2 w a cap n (flatI (kts L))
theorem VBox.below {w w' : World} {p : Nat} {x : Int} {n : Nat} {L : List KI} (h : VBox w p x n L) (hb : Below w.heap.size w w') : VBox w' p x n L := by
  obtain ⟨h1, h2, a, cap, h3, h4⟩ := h
  exact ⟨Nat.lt_of_lt_of_le h1 hb.size, (hb.cell (p := ⟨p, 0, none⟩) h1).trans h2, a, cap, (hb.cell (p := ⟨p, 1, none⟩) h1).trans h3, h4.below hb⟩

theorem setCell_self (w : World) (a : Addr) (v : Value) (h : w.cell? a = some v) : w.setCell a v = w := by
  obtain ⟨b, off, spot⟩ := a
  have hh : w.heap.modify b (fun | .cells c elem frozen => .cells (if spot.isSome then c else c.setIfInBounds off v) elem frozen | o => o) = w.heap := by
    refine Array.ext (by simp) ?_
    intro i h1 h2
    rw [Array.getElem_modify]
    split
    · rename_i e
      subst e
      have hg : w.heap[b]? = some w.heap[b] := Array.getElem?_eq_getElem h2
      unfold World.cell? at h
      simp only [hg] at h
      generalize w.heap[b] = o at *
      cases o with
      | cells c e f =>
        simp only at h ⊢
        by_cases hs : spot.isSome = true
        · rw [if_pos hs]
        · rw [if_neg hs] at h ⊢
          congr 1
          refine Array.ext (by simp) ?_
          intro j q1 q2
          rw [Array.getElem_setIfInBounds (by simpa using q1)]
          split
          · rename_i ej
            subst ej
            rw [Array.getElem?_eq_getElem q2] at h
            injection h with h
            exact h.symm
          · rfl
      | _ => simp at h
    · rfl
  exact congrArg (fun h => ({ w with heap := h } : World)) hh
theorem SlAt.thr {k cap n : Nat} {a : Option Addr} {l : List Value} {w : World} (h : SlAt k w a cap n l) {t : Nat} (ht : t < n * k) : ∃ g u, a = some ⟨g, 0, none⟩ ∧ g < w.heap.size ∧ w.cell? ⟨g, t, none⟩ = some u ∧ w.frozen? ⟨g, t, none⟩ = false := by
  rcases h with ⟨_, rfl, _, _⟩ | ⟨g, rfl, hf⟩
  · omega
  · have h1 : t < l.length := by rw [hf.len]; exact ht
    have h2 : n * k ≤ cap * k := Nat.mul_le_mul_right _ hf.le
    exact ⟨g, _, rfl, hf.lt, hf.cell t _ (List.getElem?_eq_getElem h1), (hf.there t (by omega)).2⟩
theorem sameV_self (x : Int) (L : List KI) : sameV x x L L = true := by unfold sameV; rw [sameK_self]; simp
def same10Rt (x y : Int) (au0 au1 at0 at1 : Option Addr) (cu0 cu1 ct0 ct1 n6 m6 : Nat) (LA : List KI) : List (Value → World → Prop) :=
  [fun v _ => v = .agg #[.int .i64 x, .slice au0 n6 cu0],
   fun v _ => v = .agg #[.int .i64 y, .slice au1 m6 cu1],
   fun v _ => v = .bool true,
   fun v _ => v = .agg #[.int .i64 x, .slice at0 n6 ct0],
   fun v _ => v = .agg #[.int .i64 y, .slice at1 m6 ct1],
   fun v _ => v = .int .i64 0,
   fun v _ => v = .bool true,
   fun v _ => v = .bool true,
   fun v _ => v = .bool true,
   fun v _ => v = .agg #[.int .i64 x, .slice au0 n6 cu0],
   fun v _ => v = .agg #[.int .i64 x, .slice au0 n6 cu0],
   fun v w => ∃ a c, v = .agg #[.int .i64 x, .slice a n6 c] ∧ SlAt 2 w a c n6 (flatI (kts LA)),
   fun v _ => v = .bool true,
   fun v _ => v = .bool true,
   fun v _ => v = .bool true,
   fun v _ => v = .agg #[.int .i64 x, .slice au0 n6 cu0],
   fun v w => ∃ a c, v = .agg #[.int .i64 x, .slice a n6 c] ∧ SlAt 2 w a c n6 (flatI (kts LA)),
   fun v _ => v = .agg #[.int .i64 x, .slice at0 n6 ct0],
   fun v _ => v = .int .i64 0,
   fun v _ => v = .bool true,
   fun v _ => v = .bool true,
   fun v _ => v = .bool true]
theorem same10Rt_kept (x y : Int) (au0 au1 at0 at1 : Option Addr) (cu0 cu1 ct0 ct1 n6 m6 : Nat) (LA : List KI) : Reg.AllKept Reg.Keeps (same10Rt x y au0 au1 at0 at1 cu0 cu1 ct0 ct1 n6 m6 LA) :=
  ⟨(fun _ _ _ _ h => h), (fun _ _ _ _ h => h), (fun _ _ _ _ h => h), (fun _ _ _ _ h => h), (fun _ _ _ _ h => h), (fun _ _ _ _ h => h), (fun _ _ _ _ h => h), (fun _ _ _ _ h => h), (fun _ _ _ _ h => h), (fun _ _ _ _ h => h), (fun _ _ _ _ h => h), (fun _ _ _ hk h => by obtain ⟨a, c, h1, h2⟩ := h; exact ⟨a, c, h1, h2.below hk⟩), (fun _ _ _ _ h => h), (fun _ _ _ _ h => h), (fun _ _ _ _ h => h), (fun _ _ _ _ h => h), (fun _ _ _ hk h => by obtain ⟨a, c, h1, h2⟩ := h; exact ⟨a, c, h1, h2.below hk⟩), (fun _ _ _ _ h => h), (fun _ _ _ _ h => h), (fun _ _ _ _ h => h), (fun _ _ _ _ h => h), (fun _ _ _ _ h => h), trivial⟩
def same10Rf (x y : Int) (au0 au1 at0 at1 : Option Addr) (cu0 cu1 ct0 ct1 n6 m6 : Nat) (LA : List KI) : List (Value → World → Prop) :=
  [fun v _ => v = .agg #[.int .i64 x, .slice au0 n6 cu0],
   fun v _ => v = .agg #[.int .i64 y, .slice au1 m6 cu1],
   fun v _ => v = .bool false,
   fun v _ => v = .agg #[.int .i64 x, .slice at0 n6 ct0],
   fun v _ => v = .agg #[.int .i64 y, .slice at1 m6 ct1],
   fun v _ => v = .int .i64 (-1),
   fun v _ => v = .bool false,
   fun v _ => v = .bool true,
   fun v _ => v = .bool true,
   fun v _ => v = .agg #[.int .i64 x, .slice au0 n6 cu0],
   fun v _ => v = .agg #[.int .i64 x, .slice au0 n6 cu0],
   fun v w => ∃ a c, v = .agg #[.int .i64 x, .slice a n6 c] ∧ SlAt 2 w a c n6 (flatI (kts LA)),
   fun v _ => v = .bool true,
   fun v _ => v = .bool true,
   fun v _ => v = .bool true,
   fun v _ => v = .agg #[.int .i64 x, .slice au0 n6 cu0],
   fun v w => ∃ a c, v = .agg #[.int .i64 x, .slice a n6 c] ∧ SlAt 2 w a c n6 (flatI (kts LA)),
   fun v _ => v = .agg #[.int .i64 x, .slice at0 n6 ct0],
   fun v _ => v = .int .i64 0,
   fun v _ => v = .bool true,
   fun v _ => v = .bool true,
   fun v _ => v = .bool true]
theorem same10Rf_kept (x y : Int) (au0 au1 at0 at1 : Option Addr) (cu0 cu1 ct0 ct1 n6 m6 : Nat) (LA : List KI) : Reg.AllKept Reg.Keeps (same10Rf x y au0 au1 at0 at1 cu0 cu1 ct0 ct1 n6 m6 LA) :=
  ⟨(fun _ _ _ _ h => h), (fun _ _ _ _ h => h), (fun _ _ _ _ h => h), (fun _ _ _ _ h => h), (fun _ _ _ _ h => h), (fun _ _ _ _ h => h), (fun _ _ _ _ h => h), (fun _ _ _ _ h => h), (fun _ _ _ _ h => h), (fun _ _ _ _ h => h), (fun _ _ _ _ h => h), (fun _ _ _ hk h => by obtain ⟨a, c, h1, h2⟩ := h; exact ⟨a, c, h1, h2.below hk⟩), (fun _ _ _ _ h => h), (fun _ _ _ _ h => h), (fun _ _ _ _ h => h), (fun _ _ _ _ h => h), (fun _ _ _ hk h => by obtain ⟨a, c, h1, h2⟩ := h; exact ⟨a, c, h1, h2.below hk⟩), (fun _ _ _ _ h => h), (fun _ _ _ _ h => h), (fun _ _ _ _ h => h), (fun _ _ _ _ h => h), (fun _ _ _ _ h => h), trivial⟩
def sameR3 (x y : Int) (a b : Option Addr) (n m ca cb : Nat) (W : Nat → Bx.Want) : List (Value → Bx.Gh → World → Prop) := [
  fun v _ _ => v = .agg #[.int .i64 x, .slice a n ca],
  fun v g w => Bx.Val (W 0) v g w,
  fun v _ _ => v = .agg #[.int .i64 y, .slice b m cb],
  fun v g w => Bx.Val (W 1) v g w,
  fun v g _ => ∃ c, g 0 = some c ∧ v = .pointer (some ⟨c, 0, none⟩),
  fun v g _ => ∃ c, g 1 = some c ∧ v = .pointer (some ⟨c, 0, none⟩),
  fun _ _ _ => True,
  fun _ _ _ => True]
theorem sameR3_kept (x y : Int) (a b : Option Addr) (n m ca cb : Nat) (W : Nat → Bx.Want) : Reg.GAllKept Bx.Pres (sameR3 x y a b n m ca cb W) :=
  ⟨fun _ _ _ _ _ _ h => h, ⟨fun _ _ _ _ _ hp h => h.kept hp, ⟨fun _ _ _ _ _ _ h => h, ⟨fun _ _ _ _ _ hp h => h.kept hp, ⟨fun _ _ _ _ _ hp ⟨c, h1, h2⟩ => ⟨c, hp.old _ _ h1, h2⟩, ⟨fun _ _ _ _ _ hp ⟨c, h1, h2⟩ => ⟨c, hp.old _ _ h1, h2⟩, ⟨fun _ _ _ _ _ _ h => h, ⟨fun _ _ _ _ _ _ h => h, trivial⟩⟩⟩⟩⟩⟩⟩⟩
def want2 (x y : Int) (n m : Nat) (l r : List Value) (i : Nat) : Bx.Want := if i = 0 then ⟨2, x, n, l⟩ else ⟨2, y, m, r⟩

set_option maxRecDepth 20000 in
set_option maxHeartbeats 8000000 in
theorem cellSame_any (x y : Int) (a b : Option Addr) (n m ca cb : Nat) (K V P Q : Nat → Int) (w : World) (h : Raws w a n K V) (k : Raws w b m P Q) :
    Calls Try.prog 8 #[.agg #[.int .i64 x, .slice a n ca], .agg #[.int .i64 y, .slice b m cb]] w fun e w' => e = .returned (.bool true) ∧ Below w.heap.size w w' := by
  have HH := hidq h
  have HK := hidq k
  clear h k
  go_enter Try.func8, Try.ntmps8
  go_wp2_with fail
  obtain ⟨W0, hW0⟩ : ∃ W0, (w.alloc (boxW x (.slice a n ca))).alloc (boxW y (.slice b m cb)) = W0 := ⟨_, rfl⟩
  have hb0 : Below w.heap.size w W0 := by rw [← hW0]; exact ((Below.refl _ _).alloc (Nat.le_refl _) _).alloc (by simp) _
  have hz0 : W0.heap.size = w.heap.size + 2 := by rw [← hW0]; simp
  have hbx : (W0.cell? ⟨w.heap.size, 0, none⟩ = some (.int .i64 x) ∧ W0.cell? ⟨w.heap.size, 1, none⟩ = some (.slice a n ca)) ∧ W0.cell? ⟨w.heap.size + 1, 0, none⟩ = some (.int .i64 y) ∧ W0.cell? ⟨w.heap.size + 1, 1, none⟩ = some (.slice b m cb) := by
    have s1 : (w.alloc (boxW x (.slice a n ca))).heap.size = w.heap.size + 1 := World.size_alloc _ _
    have b1 : But (fun _ => False) (w.alloc (boxW x (.slice a n ca))) W0 := by rw [← hW0]; exact (But.refl _ _).alloc _
    refine ⟨⟨?_, ?_⟩, ?_, ?_⟩
    · rw [b1.cell (p := ⟨w.heap.size, 0, none⟩) (by rw [s1]; exact Nat.lt_succ_self _) id]; exact (World.cell?_alloc_new _ _ _ 0).trans rfl
    · rw [b1.cell (p := ⟨w.heap.size, 1, none⟩) (by rw [s1]; exact Nat.lt_succ_self _) id]; exact (World.cell?_alloc_new _ _ _ 1).trans rfl
    · rw [← hW0, ← s1]; exact (World.cell?_alloc_new _ _ _ 0).trans rfl
    · rw [← hW0, ← s1]; exact (World.cell?_alloc_new _ _ _ 1).trans rfl
  rw [hW0]
  clear hW0
  refine (awake5_any W0).mono ?_
  rintro e w1 ⟨rfl, hb1⟩
  have hB1 : Below w.heap.size w w1 := hb0.trans (hb1.mono hb0.size)
  have hs1 := hb1.size
  have YC := hidq (fun W (hW : Below w1.heap.size w1 W) => (show ((W.cell? ⟨w.heap.size, 0, none⟩ = some (.int .i64 x) ∧ W.cell? ⟨w.heap.size, 1, none⟩ = some (.slice a n ca)) ∧ W.cell? ⟨w.heap.size + 1, 0, none⟩ = some (.int .i64 y) ∧ W.cell? ⟨w.heap.size + 1, 1, none⟩ = some (.slice b m cb)) from by
    have hb : Below W0.heap.size W0 W := hb1.trans (hW.mono hb1.size)
    exact ⟨⟨(hb.cell (p := ⟨w.heap.size, 0, none⟩) (by show w.heap.size < _; omega)).trans hbx.1.1, (hb.cell (p := ⟨w.heap.size, 1, none⟩) (by show w.heap.size < _; omega)).trans hbx.1.2⟩,
      (hb.cell (p := ⟨w.heap.size + 1, 0, none⟩) (by show w.heap.size + 1 < _; omega)).trans hbx.2.1, (hb.cell (p := ⟨w.heap.size + 1, 1, none⟩) (by show w.heap.size + 1 < _; omega)).trans hbx.2.2⟩))
  have HO := hidq (fun W (hW : Below w1.heap.size w1 W) => And.intro (own5_any x a n ca K V W (HH.out.below (hB1.trans (hW.mono hB1.size)))) (own5_any y b m cb P Q W (HK.out.below (hB1.trans (hW.mono hB1.size)))))
  have HT := hidq (fun W (hW : Below w1.heap.size w1 W) => And.intro (told5_any x a n ca K V W (HH.out.below (hB1.trans (hW.mono hB1.size)))) (told5_any y b m cb P Q W (HK.out.below (hB1.trans (hW.mono hB1.size)))))
  obtain ⟨n6, hn6⟩ : ∃ k, k = min n 6 := ⟨_, rfl⟩
  obtain ⟨m6, hm6⟩ : ∃ k, k = min m 6 := ⟨_, rfl⟩
  have HN := hidq (And.intro hn6 hm6)
  have HB1 := hidq hB1
  clear hb0 hbx hb1 hB1 hn6 hm6 hs1 hz0
  go_wp2_with fail
  refine Reg.wp_region_ghost (Reg.gofList (sameR3 x y a b n m ca cb (want2 x y n6 m6 (flatI (kts (rawL K V n6))) (flatI (kts (rawL P Q m6)))))) Bx.Pres (Bx.BI w1 4 6 (want2 x y n6 m6 (flatI (kts (rawL K V n6))) (flatI (kts (rawL P Q m6))))) (fun _ => none) (by kernel_rfl) (by kernel_rfl) (Reg.GAllKept.at _ (sameR3_kept x y a b n m ca cb (want2 x y n6 m6 (flatI (kts (rawL K V n6))) (flatI (kts (rawL P Q m6)))))) (Bx.BI.start w1 4 6 8 _) ⟨?_, ?_, ?_, ?_, ?_, ?_, ?_, ?_, trivial⟩ ?_
  · refine Reg.GStepAt.plain (i := 0) rfl ?_
    intro gx L ev wq hI hk hp hA
    have e2 : ev (.tmp 2) = .pointer (some ⟨w.heap.size, 0, none⟩) := hA.oldNone 2 (by kernel_rfl)
    have hcc := hA.const
    clear hA hp
    obtain ⟨⟨y0, y1⟩, y2, y3⟩ := YC.out wq (hI.bel)
    refine Reg.out_value (v := .agg #[.int .i64 x, .slice a n ca]) ?_ ⟨gx, rfl, Bx.Pres.same (But.refl _ _), hI.same 0 (by decide) (by decide) (But.refl _ _)⟩
    go_simp
  · refine Reg.GStepAt.plain (i := 1) rfl ?_
    intro gx L ev wq hI hk hp hA
    have e12 : ev (.tmp 12) = .agg #[.int .i64 x, .slice a n ca] := hA.val 0 _ 12 rfl (hp ⟨0, .data⟩ (by simp) rfl) rfl
    have hcc := hA.const
    have hcf := hA.func
    clear hA hp
    refine Reg.out_call (f := 34) (args := #[.agg #[.int .i64 x, .slice a n ca]]) (w0 := wq) ?_ ?_
    · go_simp
    refine (HO.out wq (hI.bel)).1.mono ?_
    rintro e w' ⟨m2, a2, c2, hm2, rfl, hS2, hF2, hb2⟩
    obtain rfl : n6 = m2 := HN.out.1.trans hm2.symm
    exact ⟨_, rfl, gx, ⟨_, _, rfl, rfl, a2, c2, rfl, hS2, fun j hj i e => by have := hF2 j hj; have := (hI.box i j e).lt; omega⟩, Bx.Pres.same (But.of_below hb2), hI.same 1 (by decide) (by decide) (But.of_below hb2)⟩
  · refine Reg.GStepAt.plain (i := 2) rfl ?_
    intro gx L ev wq hI hk hp hA
    have e3 : ev (.tmp 3) = .pointer (some ⟨w.heap.size + 1, 0, none⟩) := hA.oldNone 3 (by kernel_rfl)
    have hcc := hA.const
    clear hA hp
    obtain ⟨⟨y0, y1⟩, y2, y3⟩ := YC.out wq (hI.bel)
    refine Reg.out_value (v := .agg #[.int .i64 y, .slice b m cb]) ?_ ⟨gx, rfl, Bx.Pres.same (But.refl _ _), hI.same 2 (by decide) (by decide) (But.refl _ _)⟩
    go_simp
  · refine Reg.GStepAt.plain (i := 3) rfl ?_
    intro gx L ev wq hI hk hp hA
    have e14 : ev (.tmp 14) = .agg #[.int .i64 y, .slice b m cb] := hA.val 2 _ 14 rfl (hp ⟨2, .data⟩ (by simp) rfl) rfl
    have hcc := hA.const
    have hcf := hA.func
    clear hA hp
    refine Reg.out_call (f := 34) (args := #[.agg #[.int .i64 y, .slice b m cb]]) (w0 := wq) ?_ ?_
    · go_simp
    refine (HO.out wq (hI.bel)).2.mono ?_
    rintro e w' ⟨m2, a2, c2, hm2, rfl, hS2, hF2, hb2⟩
    obtain rfl : m6 = m2 := HN.out.2.trans hm2.symm
    exact ⟨_, rfl, gx, ⟨_, _, rfl, rfl, a2, c2, rfl, hS2, fun j hj i e => by have := hF2 j hj; have := (hI.box i j e).lt; omega⟩, Bx.Pres.same (But.of_below hb2), hI.same 3 (by decide) (by decide) (But.of_below hb2)⟩
  · refine Reg.GStepAt.plain (i := 4) rfl ?_
    intro gx L ev wq hI hk hp hA
    clear hA hp
    obtain ⟨h1, h2⟩ := hI.new 0 (by decide) (by decide) hk (.int .i64 0) (.slice none 0 0) 66
    refine Reg.out_new (v := .pointer (some ⟨wq.heap.size, 0, none⟩)) (w' := wq.alloc (.cells #[.int .i64 0, .slice none 0 0] 66)) ?_ ⟨_, ⟨wq.heap.size, if_pos rfl, rfl⟩, h2, h1⟩
    clear h1 h2 hI hk
    go_simp
  · refine Reg.GStepAt.plain (i := 5) rfl ?_
    intro gx L ev wq hI hk hp hA
    clear hA hp
    obtain ⟨h1, h2⟩ := hI.new 1 (by decide) (by decide) hk (.int .i64 0) (.slice none 0 0) 66
    refine Reg.out_new (v := .pointer (some ⟨wq.heap.size, 0, none⟩)) (w' := wq.alloc (.cells #[.int .i64 0, .slice none 0 0] 66)) ?_ ⟨_, ⟨wq.heap.size, if_pos rfl, rfl⟩, h2, h1⟩
    clear h1 h2 hI hk
    go_simp
  · refine Reg.GStepAt.plain (i := 6) rfl ?_
    intro gx L ev wq hI hk hp hA
    obtain ⟨c, hc, e5⟩ : ∃ c, gx 0 = some c ∧ ev (.tmp 5) = .pointer (some ⟨c, 0, none⟩) := hA.val 4 _ 5 rfl (hp ⟨4, .data⟩ (by simp) rfl) rfl
    have hv : Bx.Val (want2 x y n6 m6 (flatI (kts (rawL K V n6))) (flatI (kts (rawL P Q m6))) 0) (ev (.tmp 13)) gx wq := hA.val 1 _ 13 rfl (hp ⟨1, .data⟩ (by simp) rfl) rfl
    have hcc := hA.const
    clear hA hp
    obtain ⟨u, s, e13, rfl, a2, c2, rfl, hS2, hF2⟩ := hv
    have hst := hI.store 0 c (by decide) (by decide) hc (.int .i64 x) (.slice a2 n6 c2) ⟨rfl, a2, c2, rfl, hS2, hF2⟩
    obtain ⟨_, hbl, ⟨u0, d0⟩, ⟨u1, d1⟩, z0, z1⟩ := hI.box _ _ hc
    have e13' : ev (.tmp 13) = .agg #[.int .i64 x, .slice a2 n6 c2] := e13
    clear e13
    refine Bx.out_skip (w' := (wq.setCell ⟨c, 0, none⟩ (.int .i64 x)).setCell ⟨c, 1, none⟩ (.slice a2 n6 c2)) ?_ ⟨gx, trivial, hst.2, hst.1⟩
    clear hst hI hk hc hS2 hF2
    go_simp
  · refine Reg.GStepAt.plain (i := 7) rfl ?_
    intro gx L ev wq hI hk hp hA
    obtain ⟨c, hc, e6⟩ : ∃ c, gx 1 = some c ∧ ev (.tmp 6) = .pointer (some ⟨c, 0, none⟩) := hA.val 5 _ 6 rfl (hp ⟨5, .data⟩ (by simp) rfl) rfl
    have hv : Bx.Val (want2 x y n6 m6 (flatI (kts (rawL K V n6))) (flatI (kts (rawL P Q m6))) 1) (ev (.tmp 15)) gx wq := hA.val 3 _ 15 rfl (hp ⟨3, .data⟩ (by simp) rfl) rfl
    have hcc := hA.const
    clear hA hp
    obtain ⟨u, s, e15, rfl, a2, c2, rfl, hS2, hF2⟩ := hv
    have hst := hI.store 1 c (by decide) (by decide) hc (.int .i64 y) (.slice a2 m6 c2) ⟨rfl, a2, c2, rfl, hS2, hF2⟩
    obtain ⟨_, hbl, ⟨u0, d0⟩, ⟨u1, d1⟩, z0, z1⟩ := hI.box _ _ hc
    have e15' : ev (.tmp 15) = .agg #[.int .i64 y, .slice a2 m6 c2] := e15
    clear e15
    refine Bx.out_skip (w' := (wq.setCell ⟨c, 0, none⟩ (.int .i64 y)).setCell ⟨c, 1, none⟩ (.slice a2 m6 c2)) ?_ ⟨gx, trivial, hst.2, hst.1⟩
    clear hst hI hk hc hS2 hF2
    go_simp
  intro gx L act w2 hall hI hF
  obtain ⟨pa, uu0, vu0, hxu0, ccu0, ddu0, hhu0⟩ := hI.put 0 (by decide) (hall 6 (by decide))
  obtain ⟨rfl, au0, cu0, rfl, hSu0, _⟩ := hhu0
  obtain ⟨pb, uu1, vu1, hxu1, ccu1, ddu1, hhu1⟩ := hI.put 1 (by decide) (hall 7 (by decide))
  obtain ⟨rfl, au1, cu1, rfl, hSu1, _⟩ := hhu1
  have hsz : act.tmps.size = 65 := hF.size
  have hd : act.defers = [] := hF.defers
  have g0 : act.eval (.tmp 0) = .agg #[.int .i64 x, .slice a n ca] := hF.at.oldNone 0 (by kernel_rfl)
  have g1 : act.eval (.tmp 1) = .agg #[.int .i64 y, .slice b m cb] := hF.at.oldNone 1 (by kernel_rfl)
  have g2 : act.eval (.tmp 2) = .pointer (some ⟨w.heap.size, 0, none⟩) := hF.at.oldNone 2 (by kernel_rfl)
  have g3 : act.eval (.tmp 3) = .pointer (some ⟨w.heap.size + 1, 0, none⟩) := hF.at.oldNone 3 (by kernel_rfl)
  have g4 : act.eval (.tmp 4) = .bool false := hF.at.oldNone 4 (by kernel_rfl)
  have g5 : act.eval (.tmp 5) = .pointer (some ⟨pa, 0, none⟩) := by
    obtain ⟨c, h1, h2⟩ := (hF.val 4 _ 5 rfl (hall 4 (by decide)) rfl : ∃ c, gx 0 = some c ∧ act.eval (.tmp 5) = .pointer (some ⟨c, 0, none⟩))
    rw [hxu0] at h1; injection h1 with h1; rw [h1]; exact h2
  have g6 : act.eval (.tmp 6) = .pointer (some ⟨pb, 0, none⟩) := by
    obtain ⟨c, h1, h2⟩ := (hF.val 5 _ 6 rfl (hall 5 (by decide)) rfl : ∃ c, gx 1 = some c ∧ act.eval (.tmp 6) = .pointer (some ⟨c, 0, none⟩))
    rw [hxu1] at h1; injection h1 with h1; rw [h1]; exact h2
  have hbelu := hI.bel
  have hneu : pa ≠ pb := fun e => by have := hI.ne 0 1 pa hxu0 (by rw [e]; exact hxu1); cases this
  have hBu0 := hI.box _ _ hxu0
  have hBu1 := hI.box _ _ hxu1
  clear hF hall hI hxu0 hxu1
  have hact := Bx.act_list act 65 hsz hd
  obtain ⟨u, hu⟩ : ∃ u : Nat → Value, ∀ k, act.eval (.tmp k) = u k := ⟨fun k => act.eval (.tmp k), fun _ => rfl⟩
  have hxu : act = ⟨List.toArray (.agg #[.int .i64 x, .slice a n ca] :: .agg #[.int .i64 y, .slice b m cb] :: .pointer (some ⟨w.heap.size, 0, none⟩) :: .pointer (some ⟨w.heap.size + 1, 0, none⟩) :: .bool false :: .pointer (some ⟨pa, 0, none⟩) :: .pointer (some ⟨pb, 0, none⟩) :: u 7 :: u 8 :: u 9 :: u 10 :: u 11 :: u 12 :: u 13 :: u 14 :: u 15 :: u 16 :: u 17 :: u 18 :: u 19 :: u 20 :: u 21 :: u 22 :: u 23 :: u 24 :: u 25 :: u 26 :: u 27 :: u 28 :: u 29 :: u 30 :: u 31 :: u 32 :: u 33 :: u 34 :: u 35 :: u 36 :: u 37 :: u 38 :: u 39 :: u 40 :: u 41 :: u 42 :: u 43 :: u 44 :: u 45 :: u 46 :: u 47 :: u 48 :: u 49 :: u 50 :: u 51 :: u 52 :: u 53 :: u 54 :: u 55 :: u 56 :: u 57 :: u 58 :: u 59 :: u 60 :: u 61 :: u 62 :: u 63 :: u 64 :: []), []⟩ := by
    rw [hact]
    simp only [hu] at *
    show (⟨((List.range 65).map u).toArray, []⟩ : Act) = _
    rw [← g0, ← g1, ← g2, ← g3, ← g4, ← g5, ← g6]
    rfl
  subst hxu
  clear hact hsz hd g0 g1 g2 g3 g4 g5 g6 hu
  have HBu := hidq hbelu
  go_wp2_with fail
  refine Reg.wp_region_ghost (Reg.gofList (sameR3 x y a b n m ca cb (want2 x y n6 m6 (flatR (rawL K V n6)) (flatR (rawL P Q m6))))) Bx.Pres (Bx.BI w2 4 6 (want2 x y n6 m6 (flatR (rawL K V n6)) (flatR (rawL P Q m6)))) (fun _ => none) (by kernel_rfl) (by kernel_rfl) (Reg.GAllKept.at _ (sameR3_kept x y a b n m ca cb (want2 x y n6 m6 (flatR (rawL K V n6)) (flatR (rawL P Q m6))))) (Bx.BI.start w2 4 6 8 _) ⟨?_, ?_, ?_, ?_, ?_, ?_, ?_, ?_, trivial⟩ ?_
  · refine Reg.GStepAt.plain (i := 0) rfl ?_
    intro gx L ev wq hI hk hp hA
    have e2 : ev (.tmp 2) = .pointer (some ⟨w.heap.size, 0, none⟩) := hA.oldNone 2 (by kernel_rfl)
    have hcc := hA.const
    clear hA hp
    obtain ⟨⟨y0, y1⟩, y2, y3⟩ := YC.out wq (HBu.out.trans (hI.bel.mono HBu.out.size))
    refine Reg.out_value (v := .agg #[.int .i64 x, .slice a n ca]) ?_ ⟨gx, rfl, Bx.Pres.same (But.refl _ _), hI.same 0 (by decide) (by decide) (But.refl _ _)⟩
    go_simp
  · refine Reg.GStepAt.plain (i := 1) rfl ?_
    intro gx L ev wq hI hk hp hA
    have e16 : ev (.tmp 16) = .agg #[.int .i64 x, .slice a n ca] := hA.val 0 _ 16 rfl (hp ⟨0, .data⟩ (by simp) rfl) rfl
    have hcc := hA.const
    have hcf := hA.func
    clear hA hp
    refine Reg.out_call (f := 37) (args := #[.agg #[.int .i64 x, .slice a n ca]]) (w0 := wq) ?_ ?_
    · go_simp
    refine (HT.out wq (HBu.out.trans (hI.bel.mono HBu.out.size))).1.mono ?_
    rintro e w' ⟨m2, a2, c2, hm2, rfl, hS2, hF2, hb2⟩
    obtain rfl : n6 = m2 := HN.out.1.trans hm2.symm
    exact ⟨_, rfl, gx, ⟨_, _, rfl, rfl, a2, c2, rfl, hS2, fun j hj i e => by have := hF2 j hj; have := (hI.box i j e).lt; omega⟩, Bx.Pres.same (But.of_below hb2), hI.same 1 (by decide) (by decide) (But.of_below hb2)⟩
  · refine Reg.GStepAt.plain (i := 2) rfl ?_
    intro gx L ev wq hI hk hp hA
    have e3 : ev (.tmp 3) = .pointer (some ⟨w.heap.size + 1, 0, none⟩) := hA.oldNone 3 (by kernel_rfl)
    have hcc := hA.const
    clear hA hp
    obtain ⟨⟨y0, y1⟩, y2, y3⟩ := YC.out wq (HBu.out.trans (hI.bel.mono HBu.out.size))
    refine Reg.out_value (v := .agg #[.int .i64 y, .slice b m cb]) ?_ ⟨gx, rfl, Bx.Pres.same (But.refl _ _), hI.same 2 (by decide) (by decide) (But.refl _ _)⟩
    go_simp
  · refine Reg.GStepAt.plain (i := 3) rfl ?_
    intro gx L ev wq hI hk hp hA
    have e18 : ev (.tmp 18) = .agg #[.int .i64 y, .slice b m cb] := hA.val 2 _ 18 rfl (hp ⟨2, .data⟩ (by simp) rfl) rfl
    have hcc := hA.const
    have hcf := hA.func
    clear hA hp
    refine Reg.out_call (f := 37) (args := #[.agg #[.int .i64 y, .slice b m cb]]) (w0 := wq) ?_ ?_
    · go_simp
    refine (HT.out wq (HBu.out.trans (hI.bel.mono HBu.out.size))).2.mono ?_
    rintro e w' ⟨m2, a2, c2, hm2, rfl, hS2, hF2, hb2⟩
    obtain rfl : m6 = m2 := HN.out.2.trans hm2.symm
    exact ⟨_, rfl, gx, ⟨_, _, rfl, rfl, a2, c2, rfl, hS2, fun j hj i e => by have := hF2 j hj; have := (hI.box i j e).lt; omega⟩, Bx.Pres.same (But.of_below hb2), hI.same 3 (by decide) (by decide) (But.of_below hb2)⟩
  · refine Reg.GStepAt.plain (i := 4) rfl ?_
    intro gx L ev wq hI hk hp hA
    clear hA hp
    obtain ⟨h1, h2⟩ := hI.new 0 (by decide) (by decide) hk (.int .i64 0) (.slice none 0 0) 62
    refine Reg.out_new (v := .pointer (some ⟨wq.heap.size, 0, none⟩)) (w' := wq.alloc (.cells #[.int .i64 0, .slice none 0 0] 62)) ?_ ⟨_, ⟨wq.heap.size, if_pos rfl, rfl⟩, h2, h1⟩
    clear h1 h2 hI hk
    go_simp
  · refine Reg.GStepAt.plain (i := 5) rfl ?_
    intro gx L ev wq hI hk hp hA
    clear hA hp
    obtain ⟨h1, h2⟩ := hI.new 1 (by decide) (by decide) hk (.int .i64 0) (.slice none 0 0) 62
    refine Reg.out_new (v := .pointer (some ⟨wq.heap.size, 0, none⟩)) (w' := wq.alloc (.cells #[.int .i64 0, .slice none 0 0] 62)) ?_ ⟨_, ⟨wq.heap.size, if_pos rfl, rfl⟩, h2, h1⟩
    clear h1 h2 hI hk
    go_simp
  · refine Reg.GStepAt.plain (i := 6) rfl ?_
    intro gx L ev wq hI hk hp hA
    obtain ⟨c, hc, e7⟩ : ∃ c, gx 0 = some c ∧ ev (.tmp 7) = .pointer (some ⟨c, 0, none⟩) := hA.val 4 _ 7 rfl (hp ⟨4, .data⟩ (by simp) rfl) rfl
    have hv : Bx.Val (want2 x y n6 m6 (flatR (rawL K V n6)) (flatR (rawL P Q m6)) 0) (ev (.tmp 17)) gx wq := hA.val 1 _ 17 rfl (hp ⟨1, .data⟩ (by simp) rfl) rfl
    have hcc := hA.const
    clear hA hp
    obtain ⟨u, s, e17, rfl, a2, c2, rfl, hS2, hF2⟩ := hv
    have hst := hI.store 0 c (by decide) (by decide) hc (.int .i64 x) (.slice a2 n6 c2) ⟨rfl, a2, c2, rfl, hS2, hF2⟩
    obtain ⟨_, hbl, ⟨u0, d0⟩, ⟨u1, d1⟩, z0, z1⟩ := hI.box _ _ hc
    have e17' : ev (.tmp 17) = .agg #[.int .i64 x, .slice a2 n6 c2] := e17
    clear e17
    refine Bx.out_skip (w' := (wq.setCell ⟨c, 0, none⟩ (.int .i64 x)).setCell ⟨c, 1, none⟩ (.slice a2 n6 c2)) ?_ ⟨gx, trivial, hst.2, hst.1⟩
    clear hst hI hk hc hS2 hF2
    go_simp
  · refine Reg.GStepAt.plain (i := 7) rfl ?_
    intro gx L ev wq hI hk hp hA
    obtain ⟨c, hc, e8⟩ : ∃ c, gx 1 = some c ∧ ev (.tmp 8) = .pointer (some ⟨c, 0, none⟩) := hA.val 5 _ 8 rfl (hp ⟨5, .data⟩ (by simp) rfl) rfl
    have hv : Bx.Val (want2 x y n6 m6 (flatR (rawL K V n6)) (flatR (rawL P Q m6)) 1) (ev (.tmp 19)) gx wq := hA.val 3 _ 19 rfl (hp ⟨3, .data⟩ (by simp) rfl) rfl
    have hcc := hA.const
    clear hA hp
    obtain ⟨u, s, e19, rfl, a2, c2, rfl, hS2, hF2⟩ := hv
    have hst := hI.store 1 c (by decide) (by decide) hc (.int .i64 y) (.slice a2 m6 c2) ⟨rfl, a2, c2, rfl, hS2, hF2⟩
    obtain ⟨_, hbl, ⟨u0, d0⟩, ⟨u1, d1⟩, z0, z1⟩ := hI.box _ _ hc
    have e19' : ev (.tmp 19) = .agg #[.int .i64 y, .slice a2 m6 c2] := e19
    clear e19
    refine Bx.out_skip (w' := (wq.setCell ⟨c, 0, none⟩ (.int .i64 y)).setCell ⟨c, 1, none⟩ (.slice a2 m6 c2)) ?_ ⟨gx, trivial, hst.2, hst.1⟩
    clear hst hI hk hc hS2 hF2
    go_simp
  intro gx L act w3 hall hI hF
  obtain ⟨px, ut0, vt0, hxt0, cct0, ddt0, hht0⟩ := hI.put 0 (by decide) (hall 6 (by decide))
  obtain ⟨rfl, at0, ct0, rfl, hSt0, _⟩ := hht0
  obtain ⟨py, ut1, vt1, hxt1, cct1, ddt1, hht1⟩ := hI.put 1 (by decide) (hall 7 (by decide))
  obtain ⟨rfl, at1, ct1, rfl, hSt1, _⟩ := hht1
  have hsz : act.tmps.size = 65 := hF.size
  have hd : act.defers = [] := hF.defers
  have g0 : act.eval (.tmp 0) = .agg #[.int .i64 x, .slice a n ca] := hF.at.oldNone 0 (by kernel_rfl)
  have g1 : act.eval (.tmp 1) = .agg #[.int .i64 y, .slice b m cb] := hF.at.oldNone 1 (by kernel_rfl)
  have g2 : act.eval (.tmp 2) = .pointer (some ⟨w.heap.size, 0, none⟩) := hF.at.oldNone 2 (by kernel_rfl)
  have g3 : act.eval (.tmp 3) = .pointer (some ⟨w.heap.size + 1, 0, none⟩) := hF.at.oldNone 3 (by kernel_rfl)
  have g4 : act.eval (.tmp 4) = .bool false := hF.at.oldNone 4 (by kernel_rfl)
  have g5 : act.eval (.tmp 5) = .pointer (some ⟨pa, 0, none⟩) := hF.at.oldNone 5 (by kernel_rfl)
  have g6 : act.eval (.tmp 6) = .pointer (some ⟨pb, 0, none⟩) := hF.at.oldNone 6 (by kernel_rfl)
  have g7 : act.eval (.tmp 7) = .pointer (some ⟨px, 0, none⟩) := by
    obtain ⟨c, h1, h2⟩ := (hF.val 4 _ 7 rfl (hall 4 (by decide)) rfl : ∃ c, gx 0 = some c ∧ act.eval (.tmp 7) = .pointer (some ⟨c, 0, none⟩))
    rw [hxt0] at h1; injection h1 with h1; rw [h1]; exact h2
  have g8 : act.eval (.tmp 8) = .pointer (some ⟨py, 0, none⟩) := by
    obtain ⟨c, h1, h2⟩ := (hF.val 5 _ 8 rfl (hall 5 (by decide)) rfl : ∃ c, gx 1 = some c ∧ act.eval (.tmp 8) = .pointer (some ⟨c, 0, none⟩))
    rw [hxt1] at h1; injection h1 with h1; rw [h1]; exact h2
  have hbelt := hI.bel
  have hnet : px ≠ py := fun e => by have := hI.ne 0 1 px hxt0 (by rw [e]; exact hxt1); cases this
  have hBt0 := hI.box _ _ hxt0
  have hBt1 := hI.box _ _ hxt1
  clear hF hall hI hxt0 hxt1
  have hact := Bx.act_list act 65 hsz hd
  obtain ⟨t, ht⟩ : ∃ t : Nat → Value, ∀ k, act.eval (.tmp k) = t k := ⟨fun k => act.eval (.tmp k), fun _ => rfl⟩
  have hxt : act = ⟨List.toArray (.agg #[.int .i64 x, .slice a n ca] :: .agg #[.int .i64 y, .slice b m cb] :: .pointer (some ⟨w.heap.size, 0, none⟩) :: .pointer (some ⟨w.heap.size + 1, 0, none⟩) :: .bool false :: .pointer (some ⟨pa, 0, none⟩) :: .pointer (some ⟨pb, 0, none⟩) :: .pointer (some ⟨px, 0, none⟩) :: .pointer (some ⟨py, 0, none⟩) :: t 9 :: t 10 :: t 11 :: t 12 :: t 13 :: t 14 :: t 15 :: t 16 :: t 17 :: t 18 :: t 19 :: t 20 :: t 21 :: t 22 :: t 23 :: t 24 :: t 25 :: t 26 :: t 27 :: t 28 :: t 29 :: t 30 :: t 31 :: t 32 :: t 33 :: t 34 :: t 35 :: t 36 :: t 37 :: t 38 :: t 39 :: t 40 :: t 41 :: t 42 :: t 43 :: t 44 :: t 45 :: t 46 :: t 47 :: t 48 :: t 49 :: t 50 :: t 51 :: t 52 :: t 53 :: t 54 :: t 55 :: t 56 :: t 57 :: t 58 :: t 59 :: t 60 :: t 61 :: t 62 :: t 63 :: t 64 :: []), []⟩ := by
    rw [hact]
    simp only [ht] at *
    show (⟨((List.range 65).map t).toArray, []⟩ : Act) = _
    rw [← g0, ← g1, ← g2, ← g3, ← g4, ← g5, ← g6, ← g7, ← g8]
    rfl
  subst hxt
  clear hact hsz hd g0 g1 g2 g3 g4 g5 g6 g7 g8 ht
  have HBt := hidq hbelt
  have hltu0 := hBu0.lt
  have hltu1 := hBu1.lt
  have hltt0 := hBt0.lt
  have hltt1 := hBt1.lt
  have FX := hidq (fun W (hW : Below w3.heap.size w3 W) => (show ((W.cell? ⟨pa, 0, none⟩ = some (.int .i64 x) ∧ W.cell? ⟨pa, 1, none⟩ = some (.slice au0 n6 cu0)) ∧ W.cell? ⟨pb, 0, none⟩ = some (.int .i64 y) ∧ W.cell? ⟨pb, 1, none⟩ = some (.slice au1 m6 cu1)) ∧
      ((W.cell? ⟨px, 0, none⟩ = some (.int .i64 x) ∧ W.cell? ⟨px, 1, none⟩ = some (.slice at0 n6 ct0)) ∧ W.cell? ⟨py, 0, none⟩ = some (.int .i64 y) ∧ W.cell? ⟨py, 1, none⟩ = some (.slice at1 m6 ct1)) ∧
      (SlAt 2 W au0 cu0 n6 (flatI (kts (rawL K V n6))) ∧ SlAt 2 W au1 cu1 m6 (flatI (kts (rawL P Q m6)))) ∧ SlAt 2 W at0 ct0 n6 (flatR (rawL K V n6)) ∧ SlAt 2 W at1 ct1 m6 (flatR (rawL P Q m6)) from by
    have hV : Below w2.heap.size w2 W := HBt.out.trans (hW.mono HBt.out.size)
    refine ⟨⟨⟨?_, ?_⟩, ?_, ?_⟩, ⟨⟨?_, ?_⟩, ?_, ?_⟩, ⟨?_, ?_⟩, ?_, ?_⟩
    · exact (hV.cell (p := ⟨pa, 0, none⟩) hltu0).trans ccu0
    · exact (hV.cell (p := ⟨pa, 1, none⟩) hltu0).trans ddu0
    · exact (hV.cell (p := ⟨pb, 0, none⟩) hltu1).trans ccu1
    · exact (hV.cell (p := ⟨pb, 1, none⟩) hltu1).trans ddu1
    · exact (hW.cell (p := ⟨px, 0, none⟩) hltt0).trans cct0
    · exact (hW.cell (p := ⟨px, 1, none⟩) hltt0).trans ddt0
    · exact (hW.cell (p := ⟨py, 0, none⟩) hltt1).trans cct1
    · exact (hW.cell (p := ⟨py, 1, none⟩) hltt1).trans ddt1
    · exact hSu0.below hV
    · exact hSu1.below hV
    · exact hSt0.below hW
    · exact hSt1.below hW))
  have HB3 := hidq (show Below w.heap.size w w3 from (HB1.out.trans (HBu.out.mono HB1.out.size)).trans (HBt.out.mono (by have := HB1.out.size; have := HBu.out.size; omega)))
  have hn6b : n6 ≤ 6 := by have := HN.out.1; omega
  have hm6b : m6 ≤ 6 := by have := HN.out.2; omega
  clear ccu0 ccu1 ddu0 ddu1 cct0 cct1 ddt0 ddt1 hSu0 hSu1 hSt0 hSt1 hBu0 hBu1 hBt0 hBt1 hneu hnet hbelu hbelt hltu0 hltu1 HBu HBt HO HT YC
  have hrl : (rawL K V n6).length = n6 := rawL_length K V n6
  have hrm : (rawL P Q m6).length = m6 := rawL_length P Q m6
  obtain ⟨LA, hLA⟩ : ∃ l, rawL K V n6 = l := ⟨_, rfl⟩
  obtain ⟨LB, hLB⟩ : ∃ l, rawL P Q m6 = l := ⟨_, rfl⟩
  rw [hLA] at FX hrl
  rw [hLB] at FX hrm
  have HLA := hidq hrl
  have HLB := hidq hrm
  clear hLA hLB hrl hrm
  have hn6i : (n6 : Int) ≤ 6 := by omega
  obtain ⟨⟨⟨v0, v1⟩, v2, v3⟩, ⟨⟨x0, x1⟩, x2, x3⟩, ⟨s0, s1⟩, s2, s3⟩ := FX.out w3 (Below.refl _ _)
  clear v0 v1 v2 v3 x0 x2 x3 s0 s1 s2 s3
  go_wp2_with fail
  clear x1
  go_loopw [23] (fun s wr => ∃ (k : Nat), s = .int .i64 (k : Int) ∧ k ≤ n6 ∧ Below w3.heap.size w3 wr) (fun s _ => n6 - (intOf s).toNat)
  case atStart => exact ⟨0, rfl, Nat.zero_le _, Below.refl _ _⟩
  case round =>
    obtain ⟨k, rfl, hk, hB⟩ := hrel
    obtain ⟨⟨⟨v0, v1⟩, v2, v3⟩, ⟨⟨x0, x1⟩, x2, x3⟩, ⟨s0, s1⟩, s2, s3⟩ := FX.out wr hB
    by_cases hlt : k < n6
    · have k1 : (k : Int) < (n6 : Int) := by omega
      have hz := (s2.thr (t := k * 2) (by omega))
      have hz' := (s2.thr (t := k * 2 + 1) (by omega))
      obtain ⟨g, hge, hg, e0, e1⟩ := s2.itemR HLA.out hlt
      obtain ⟨g0, uu0, hq0, _, hcl0, hf0⟩ := hz
      obtain ⟨g1, uu1, hq1, _, hcl1, hf1⟩ := hz'
      clear hcl0 hcl1
      rw [hge] at hq0 hq1
      cases hq0; cases hq1
      subst hge
      have hle := s2.le
      have hrg := ni_rng LA[k]!.ok.1
      have hMk := hidq (fun W => make_any (ni LA[k]!.b) LA[k]!.v W hrg.1 hrg.2)
      rw [nf_ni', LA[k]!.ok.2] at hMk
      generalize LA[k]! = it at *
      have FC := hidq (fun W (hW : But (fun _ => False) wr W) => (show (W.cell? ⟨px, 1, none⟩ = some (.slice (some ⟨g, 0, none⟩) n6 ct0) ∧ W.cell? ⟨g, k * 2, none⟩ = some (.int .u64 (ni it.b)) ∧ W.cell? ⟨g, k * 2 + 1, none⟩ = some (.int .i64 it.v)) ∧ W.frozen? ⟨g, k * 2, none⟩ = false ∧ W.frozen? ⟨g, k * 2 + 1, none⟩ = false ∧ g < W.heap.size from
        ⟨⟨(hW.cell (p := ⟨px, 1, none⟩) (by show px < _; have := hB.size; omega) id).trans x1, (hW.cell (p := ⟨g, k * 2, none⟩) hg id).trans e0, (hW.cell (p := ⟨g, k * 2 + 1, none⟩) hg id).trans e1⟩, (hW.frozen (p := ⟨g, k * 2, none⟩) hg id).trans hf0, (hW.frozen (p := ⟨g, k * 2 + 1, none⟩) hg id).trans hf1, by have := hW.size; omega⟩))
      have HF := hidq (fun (W : World) (h0 : W.cell? ⟨g, k * 2, none⟩ = some (.int .u64 (ni it.b))) (h1 : W.cell? ⟨g, k * 2 + 1, none⟩ = some (.int .i64 it.v)) => (show (W.setCell ⟨g, k * 2, none⟩ (.int .u64 (ni it.b))).setCell ⟨g, k * 2 + 1, none⟩ (.int .i64 it.v) = W from by
        rw [setCell_self W _ _ h0, setCell_self W _ _ h1]))
      clear s0 s1 s2 s3 v0 v1 v2 v3 x0 x2 x3 hrg
      go_wp2
      go_region_with (go_at_call 38; refine (hMk.out _).mono ?_; rintro e w5 ⟨rfl, hb5⟩; have hbb5 : But (fun _ => False) wr w5 := ((But.refl _ wr).drew).trans (But.of_below hb5); obtain ⟨⟨f1, f2, f3⟩, f4, f5, f6⟩ := FC.out w5 hbb5)
      all_goals go_wp2
      all_goals go_roundw
      all_goals first
        | (show (_ : Nat) < _; simp [intOf]; omega)
        | (exact ⟨k + 1, by go_num, by omega, by rw [HF.out w5 f2 f3]; exact hB.trans (hbb5.below hB.size (fun _ e => e.elim))⟩)
    · have hdl : decide ((k : Int) < (n6 : Int)) = false := decide_eq_false (by omega)
      have HBW := hidq hB
      have hdl2 : decide (k < n6) = false := decide_eq_false hlt
      clear s0 s1 s2 s3 v0 v1 v2 v3 x0 x1 x2 x3 hB
      go_wp2_with fail
      cases hSV : sameV x y LA LB
      · have HSV := hidq hSV
        clear hSV
        have hrefl : ∀ w : World, Reg.Keeps w w := Reg.Keeps.refl
        refine Reg.wp_region_props (Reg.ofList (same10Rf x y au0 au1 at0 at1 cu0 cu1 ct0 ct1 n6 m6 LA)) Reg.Keeps (fun _ w => Reg.Keeps wr w) (by kernel_rfl) (by kernel_rfl) (Reg.AllKept.at _ (same10Rf_kept x y au0 au1 at0 at1 cu0 cu1 ct0 ct1 n6 m6 LA)) hrefl ((Reg.Keeps.refl _).drewN 1) ⟨?_, ?_, ?_, ?_, ?_, ?_, ?_, ?_, ?_, ?_, ?_, ?_, ?_, ?_, ?_, ?_, ?_, ?_, ?_, ?_, ?_, ?_, trivial⟩ ?_
        · refine Reg.StepAt.plain (i := 0) rfl ?_
          intro L ev w hI hk hp hA
          have e5 : ev (.tmp 5) = .pointer (some ⟨pa, 0, none⟩) := hA.oldNone 5 (by kernel_rfl)
          have hcc := hA.const
          clear hA hp
          obtain ⟨⟨⟨v0, v1⟩, v2, v3⟩, ⟨⟨x0, x1⟩, x2, x3⟩, ⟨s0, s1⟩, s2, s3⟩ := FX.out w (HBW.out.trans (hI.mono HBW.out.size))
          clear s0 s1 s2 s3
          refine Reg.out_value (v := .agg #[.int .i64 x, .slice au0 n6 cu0]) ?_ ⟨rfl, hrefl _, hI⟩
          go_simp
        · refine Reg.StepAt.plain (i := 1) rfl ?_
          intro L ev w hI hk hp hA
          have e6 : ev (.tmp 6) = .pointer (some ⟨pb, 0, none⟩) := hA.oldNone 6 (by kernel_rfl)
          have hcc := hA.const
          clear hA hp
          obtain ⟨⟨⟨v0, v1⟩, v2, v3⟩, ⟨⟨x0, x1⟩, x2, x3⟩, ⟨s0, s1⟩, s2, s3⟩ := FX.out w (HBW.out.trans (hI.mono HBW.out.size))
          clear s0 s1 s2 s3
          refine Reg.out_value (v := .agg #[.int .i64 y, .slice au1 m6 cu1]) ?_ ⟨rfl, hrefl _, hI⟩
          go_simp
        · refine Reg.StepAt.plain (i := 2) rfl ?_
          intro L ev w hI hk hp hA
          have e44 : ev (.tmp 44) = .agg #[.int .i64 x, .slice au0 n6 cu0] := hA.val 0 _ 44 rfl (hp ⟨0, .data⟩ (by simp) rfl) rfl
          have e45 : ev (.tmp 45) = .agg #[.int .i64 y, .slice au1 m6 cu1] := hA.val 1 _ 45 rfl (hp ⟨1, .data⟩ (by simp) rfl) rfl
          have hcc := hA.const
          have hcf := hA.func
          clear hA hp
          obtain ⟨⟨⟨v0, v1⟩, v2, v3⟩, ⟨⟨x0, x1⟩, x2, x3⟩, ⟨s0, s1⟩, s2, s3⟩ := FX.out w (HBW.out.trans (hI.mono HBW.out.size))
          refine Reg.out_call (f := 35) (args := #[.agg #[.int .i64 x, .slice au0 n6 cu0], .agg #[.int .i64 y, .slice au1 m6 cu1]]) (w0 := w) ?_ ?_
          · clear s0 s1 s2 s3; go_simp
          refine (vsame_any x y au0 au1 cu0 cu1 n6 m6 LA LB w HLA.out HLB.out s0 s1 (by omega)).mono ?_
          rw [HSV.out]
          rintro e w' ⟨rfl, hb'⟩
          exact ⟨_, rfl, rfl, hb', Reg.Keeps.trans hI hb'⟩
        · refine Reg.StepAt.plain (i := 3) rfl ?_
          intro L ev w hI hk hp hA
          have e7 : ev (.tmp 7) = .pointer (some ⟨px, 0, none⟩) := hA.oldNone 7 (by kernel_rfl)
          have hcc := hA.const
          clear hA hp
          obtain ⟨⟨⟨v0, v1⟩, v2, v3⟩, ⟨⟨x0, x1⟩, x2, x3⟩, ⟨s0, s1⟩, s2, s3⟩ := FX.out w (HBW.out.trans (hI.mono HBW.out.size))
          clear s0 s1 s2 s3
          refine Reg.out_value (v := .agg #[.int .i64 x, .slice at0 n6 ct0]) ?_ ⟨rfl, hrefl _, hI⟩
          go_simp
        · refine Reg.StepAt.plain (i := 4) rfl ?_
          intro L ev w hI hk hp hA
          have e8 : ev (.tmp 8) = .pointer (some ⟨py, 0, none⟩) := hA.oldNone 8 (by kernel_rfl)
          have hcc := hA.const
          clear hA hp
          obtain ⟨⟨⟨v0, v1⟩, v2, v3⟩, ⟨⟨x0, x1⟩, x2, x3⟩, ⟨s0, s1⟩, s2, s3⟩ := FX.out w (HBW.out.trans (hI.mono HBW.out.size))
          clear s0 s1 s2 s3
          refine Reg.out_value (v := .agg #[.int .i64 y, .slice at1 m6 ct1]) ?_ ⟨rfl, hrefl _, hI⟩
          go_simp
        · refine Reg.StepAt.plain (i := 5) rfl ?_
          intro L ev w hI hk hp hA
          have e47 : ev (.tmp 47) = .agg #[.int .i64 x, .slice at0 n6 ct0] := hA.val 3 _ 47 rfl (hp ⟨3, .data⟩ (by simp) rfl) rfl
          have e48 : ev (.tmp 48) = .agg #[.int .i64 y, .slice at1 m6 ct1] := hA.val 4 _ 48 rfl (hp ⟨4, .data⟩ (by simp) rfl) rfl
          have hcc := hA.const
          have hcf := hA.func
          clear hA hp
          obtain ⟨⟨⟨v0, v1⟩, v2, v3⟩, ⟨⟨x0, x1⟩, x2, x3⟩, ⟨s0, s1⟩, s2, s3⟩ := FX.out w (HBW.out.trans (hI.mono HBW.out.size))
          refine Reg.out_call (f := 39) (args := #[.agg #[.int .i64 x, .slice at0 n6 ct0], .agg #[.int .i64 y, .slice at1 m6 ct1]]) (w0 := w) ?_ ?_
          · clear s0 s1 s2 s3; go_simp
          refine (rsame_any x y at0 at1 ct0 ct1 n6 m6 LA LB w HLA.out HLB.out s2 s3 (by omega)).mono ?_
          rw [HSV.out]
          rintro e w' ⟨rfl, hb'⟩
          exact ⟨_, rfl, rfl, hb', Reg.Keeps.trans hI hb'⟩
        · refine Reg.StepAt.plain (i := 6) rfl ?_
          intro L ev w hI hk hp hA
          have e49 : ev (.tmp 49) = .int .i64 (-1) := hA.val 5 _ 49 rfl (hp ⟨5, .data⟩ (by simp) rfl) rfl
          have hcc := hA.const
          clear hA hp
          refine Reg.out_value (v := .bool false) ?_ ⟨rfl, hrefl _, hI⟩
          go_simp
        · refine Reg.StepAt.plain (i := 7) rfl ?_
          intro L ev w hI hk hp hA
          have e46 : ev (.tmp 46) = .bool false := hA.val 2 _ 46 rfl (hp ⟨2, .data⟩ (by simp) rfl) rfl
          have e50 : ev (.tmp 50) = .bool false := hA.val 6 _ 50 rfl (hp ⟨6, .data⟩ (by simp) rfl) rfl
          have hcc := hA.const
          clear hA hp
          refine Reg.out_value (v := .bool true) ?_ ⟨rfl, hrefl _, hI⟩
          go_simp
        · refine Reg.StepAt.plain (i := 8) rfl ?_
          intro L ev w hI hk hp hA
          have e51 : ev (.tmp 51) = .bool true := hA.val 7 _ 51 rfl (hp ⟨7, .data⟩ (by simp) rfl) rfl
          have hcc := hA.const
          clear hA hp
          refine Reg.out_value (v := .bool true) ?_ ⟨rfl, hrefl _, hI⟩
          go_simp
        · refine Reg.StepAt.guarded (i := 9) rfl ?_
          intro L ev w hI hk hp hA
          have e5 : ev (.tmp 5) = .pointer (some ⟨pa, 0, none⟩) := hA.oldNone 5 (by kernel_rfl)
          have eg : ev (.tmp 52) = .bool true := hA.val 8 _ 52 rfl (hp ⟨8, .guard⟩ (by simp) rfl) rfl
          refine ⟨_, 52, true, rfl, rfl, eg, ?_⟩
          rw [if_pos rfl]
          have hcc := hA.const
          clear hA hp
          obtain ⟨⟨⟨v0, v1⟩, v2, v3⟩, ⟨⟨x0, x1⟩, x2, x3⟩, ⟨s0, s1⟩, s2, s3⟩ := FX.out w (HBW.out.trans (hI.mono HBW.out.size))
          clear s0 s1 s2 s3
          refine Reg.out_value (v := .agg #[.int .i64 x, .slice au0 n6 cu0]) ?_ ⟨rfl, hrefl _, hI⟩
          go_simp
        · refine Reg.StepAt.guarded (i := 10) rfl ?_
          intro L ev w hI hk hp hA
          have e5 : ev (.tmp 5) = .pointer (some ⟨pa, 0, none⟩) := hA.oldNone 5 (by kernel_rfl)
          have eg : ev (.tmp 52) = .bool true := hA.val 8 _ 52 rfl (hp ⟨8, .guard⟩ (by simp) rfl) rfl
          refine ⟨_, 52, true, rfl, rfl, eg, ?_⟩
          rw [if_pos rfl]
          have hcc := hA.const
          clear hA hp
          obtain ⟨⟨⟨v0, v1⟩, v2, v3⟩, ⟨⟨x0, x1⟩, x2, x3⟩, ⟨s0, s1⟩, s2, s3⟩ := FX.out w (HBW.out.trans (hI.mono HBW.out.size))
          clear s0 s1 s2 s3
          refine Reg.out_value (v := .agg #[.int .i64 x, .slice au0 n6 cu0]) ?_ ⟨rfl, hrefl _, hI⟩
          go_simp
        · refine Reg.StepAt.guarded (i := 11) rfl ?_
          intro L ev w hI hk hp hA
          have e54 : ev (.tmp 54) = .agg #[.int .i64 x, .slice au0 n6 cu0] := hA.val 10 _ 54 rfl (hp ⟨10, .data⟩ (by simp) rfl) rfl
          have eg : ev (.tmp 52) = .bool true := hA.val 8 _ 52 rfl (hp ⟨8, .chain⟩ (by simp) rfl) rfl
          refine ⟨_, 52, true, rfl, rfl, eg, ?_⟩
          rw [if_pos rfl]
          have hcc := hA.const
          have hcf := hA.func
          clear hA hp
          obtain ⟨⟨⟨v0, v1⟩, v2, v3⟩, ⟨⟨x0, x1⟩, x2, x3⟩, ⟨s0, s1⟩, s2, s3⟩ := FX.out w (HBW.out.trans (hI.mono HBW.out.size))
          refine Reg.out_call (f := 40) (args := #[.agg #[.int .i64 x, .slice au0 n6 cu0]]) (w0 := w) ?_ ?_
          · clear s0 s1 s2 s3; go_simp
          refine (vclone_any x au0 cu0 n6 _ w s0 (by omega)).mono ?_
          rintro e w' ⟨a', c', rfl, hS', hF', hb'⟩
          exact ⟨_, rfl, ⟨a', c', rfl, hS'⟩, hb', Reg.Keeps.trans hI hb'⟩
        · refine Reg.StepAt.guarded (i := 12) rfl ?_
          intro L ev w hI hk hp hA
          have e53 : ev (.tmp 53) = .agg #[.int .i64 x, .slice au0 n6 cu0] := hA.val 9 _ 53 rfl (hp ⟨9, .data⟩ (by simp) rfl) rfl
          have e55 : (fun v w => ∃ a c, v = .agg #[.int .i64 x, .slice a n6 c] ∧ SlAt 2 w a c n6 (flatI (kts LA))) (ev (.tmp 55)) w := hA.val 11 _ 55 rfl (hp ⟨11, .data⟩ (by simp) rfl) rfl
          have eg : ev (.tmp 52) = .bool true := hA.val 8 _ 52 rfl (hp ⟨8, .guard⟩ (by simp) rfl) rfl
          refine ⟨_, 52, true, rfl, rfl, eg, ?_⟩
          rw [if_pos rfl]
          have hcc := hA.const
          have hcf := hA.func
          clear hA hp
          obtain ⟨⟨⟨v0, v1⟩, v2, v3⟩, ⟨⟨x0, x1⟩, x2, x3⟩, ⟨s0, s1⟩, s2, s3⟩ := FX.out w (HBW.out.trans (hI.mono HBW.out.size))
          obtain ⟨a9, c9, e9, hS9⟩ := e55
          refine Reg.out_call (f := 35) (args := #[.agg #[.int .i64 x, .slice au0 n6 cu0], .agg #[.int .i64 x, .slice a9 n6 c9]]) (w0 := w) ?_ ?_
          · clear s0 s1 s2 s3 hS9; go_simp
          refine (vsame_any x x au0 a9 cu0 c9 n6 n6 LA LA w HLA.out HLA.out s0 hS9 (by omega)).mono ?_
          rw [sameV_self]
          rintro e w' ⟨rfl, hb'⟩
          exact ⟨_, rfl, rfl, hb', Reg.Keeps.trans hI hb'⟩
        · refine Reg.StepAt.plain (i := 13) rfl ?_
          intro L ev w hI hk hp hA
          have e52 : ev (.tmp 52) = .bool true := hA.val 8 _ 52 rfl (hp ⟨8, .data⟩ (by simp) rfl) rfl
          have e56 : ev (.tmp 56) = .bool true := hA.val 12 _ 56 rfl (hp ⟨12, .data⟩ (by simp) rfl) rfl
          have hcc := hA.const
          clear hA hp
          refine Reg.out_value (v := .bool true) ?_ ⟨rfl, hrefl _, hI⟩
          go_simp
        · refine Reg.StepAt.plain (i := 14) rfl ?_
          intro L ev w hI hk hp hA
          have e57 : ev (.tmp 57) = .bool true := hA.val 13 _ 57 rfl (hp ⟨13, .data⟩ (by simp) rfl) rfl
          have hcc := hA.const
          clear hA hp
          refine Reg.out_value (v := .bool true) ?_ ⟨rfl, hrefl _, hI⟩
          go_simp
        · refine Reg.StepAt.guarded (i := 15) rfl ?_
          intro L ev w hI hk hp hA
          have e5 : ev (.tmp 5) = .pointer (some ⟨pa, 0, none⟩) := hA.oldNone 5 (by kernel_rfl)
          have eg : ev (.tmp 58) = .bool true := hA.val 14 _ 58 rfl (hp ⟨14, .guard⟩ (by simp) rfl) rfl
          refine ⟨_, 58, true, rfl, rfl, eg, ?_⟩
          rw [if_pos rfl]
          have hcc := hA.const
          clear hA hp
          obtain ⟨⟨⟨v0, v1⟩, v2, v3⟩, ⟨⟨x0, x1⟩, x2, x3⟩, ⟨s0, s1⟩, s2, s3⟩ := FX.out w (HBW.out.trans (hI.mono HBW.out.size))
          clear s0 s1 s2 s3
          refine Reg.out_value (v := .agg #[.int .i64 x, .slice au0 n6 cu0]) ?_ ⟨rfl, hrefl _, hI⟩
          go_simp
        · refine Reg.StepAt.guarded (i := 16) rfl ?_
          intro L ev w hI hk hp hA
          have e59 : ev (.tmp 59) = .agg #[.int .i64 x, .slice au0 n6 cu0] := hA.val 15 _ 59 rfl (hp ⟨15, .data⟩ (by simp) rfl) rfl
          have eg : ev (.tmp 58) = .bool true := hA.val 14 _ 58 rfl (hp ⟨14, .chain⟩ (by simp) rfl) rfl
          refine ⟨_, 58, true, rfl, rfl, eg, ?_⟩
          rw [if_pos rfl]
          have hcc := hA.const
          have hcf := hA.func
          clear hA hp
          obtain ⟨⟨⟨v0, v1⟩, v2, v3⟩, ⟨⟨x0, x1⟩, x2, x3⟩, ⟨s0, s1⟩, s2, s3⟩ := FX.out w (HBW.out.trans (hI.mono HBW.out.size))
          refine Reg.out_call (f := 40) (args := #[.agg #[.int .i64 x, .slice au0 n6 cu0]]) (w0 := w) ?_ ?_
          · clear s0 s1 s2 s3; go_simp
          refine (vclone_any x au0 cu0 n6 _ w s0 (by omega)).mono ?_
          rintro e w' ⟨a', c', rfl, hS', hF', hb'⟩
          exact ⟨_, rfl, ⟨a', c', rfl, hS'⟩, hb', Reg.Keeps.trans hI hb'⟩
        · refine Reg.StepAt.guarded (i := 17) rfl ?_
          intro L ev w hI hk hp hA
          have e7 : ev (.tmp 7) = .pointer (some ⟨px, 0, none⟩) := hA.oldNone 7 (by kernel_rfl)
          have eg : ev (.tmp 58) = .bool true := hA.val 14 _ 58 rfl (hp ⟨14, .guard⟩ (by simp) rfl) rfl
          refine ⟨_, 58, true, rfl, rfl, eg, ?_⟩
          rw [if_pos rfl]
          have hcc := hA.const
          clear hA hp
          obtain ⟨⟨⟨v0, v1⟩, v2, v3⟩, ⟨⟨x0, x1⟩, x2, x3⟩, ⟨s0, s1⟩, s2, s3⟩ := FX.out w (HBW.out.trans (hI.mono HBW.out.size))
          clear s0 s1 s2 s3
          refine Reg.out_value (v := .agg #[.int .i64 x, .slice at0 n6 ct0]) ?_ ⟨rfl, hrefl _, hI⟩
          go_simp
        · refine Reg.StepAt.guarded (i := 18) rfl ?_
          intro L ev w hI hk hp hA
          have e60 : (fun v w => ∃ a c, v = .agg #[.int .i64 x, .slice a n6 c] ∧ SlAt 2 w a c n6 (flatI (kts LA))) (ev (.tmp 60)) w := hA.val 16 _ 60 rfl (hp ⟨16, .data⟩ (by simp) rfl) rfl
          have e61 : ev (.tmp 61) = .agg #[.int .i64 x, .slice at0 n6 ct0] := hA.val 17 _ 61 rfl (hp ⟨17, .data⟩ (by simp) rfl) rfl
          have eg : ev (.tmp 58) = .bool true := hA.val 14 _ 58 rfl (hp ⟨14, .guard⟩ (by simp) rfl) rfl
          refine ⟨_, 58, true, rfl, rfl, eg, ?_⟩
          rw [if_pos rfl]
          have hcc := hA.const
          have hcf := hA.func
          clear hA hp
          obtain ⟨⟨⟨v0, v1⟩, v2, v3⟩, ⟨⟨x0, x1⟩, x2, x3⟩, ⟨s0, s1⟩, s2, s3⟩ := FX.out w (HBW.out.trans (hI.mono HBW.out.size))
          obtain ⟨a9, c9, e9, hS9⟩ := e60
          refine Reg.out_call (f := 30) (args := #[.agg #[.int .i64 x, .slice a9 n6 c9], .agg #[.int .i64 x, .slice at0 n6 ct0]]) (w0 := w) ?_ ?_
          · clear s0 s1 s2 s3 hS9; go_simp
          refine (is5_any x a9 at0 c9 ct0 n6 LA w HLA.out hS9 s2 (by omega)).mono ?_
          rintro e w' ⟨rfl, hb'⟩
          exact ⟨_, rfl, rfl, hb', Reg.Keeps.trans hI hb'⟩
        · refine Reg.StepAt.guarded (i := 19) rfl ?_
          intro L ev w hI hk hp hA
          have e62 : ev (.tmp 62) = .int .i64 0 := hA.val 18 _ 62 rfl (hp ⟨18, .data⟩ (by simp) rfl) rfl
          have eg : ev (.tmp 58) = .bool true := hA.val 14 _ 58 rfl (hp ⟨14, .guard⟩ (by simp) rfl) rfl
          refine ⟨_, 58, true, rfl, rfl, eg, ?_⟩
          rw [if_pos rfl]
          have hcc := hA.const
          clear hA hp
          refine Reg.out_value (v := .bool true) ?_ ⟨rfl, hrefl _, hI⟩
          go_simp
        · refine Reg.StepAt.plain (i := 20) rfl ?_
          intro L ev w hI hk hp hA
          have e58 : ev (.tmp 58) = .bool true := hA.val 14 _ 58 rfl (hp ⟨14, .data⟩ (by simp) rfl) rfl
          have e63 : ev (.tmp 63) = .bool true := hA.val 19 _ 63 rfl (hp ⟨19, .data⟩ (by simp) rfl) rfl
          have hcc := hA.const
          clear hA hp
          refine Reg.out_value (v := .bool true) ?_ ⟨rfl, hrefl _, hI⟩
          go_simp
        · refine Reg.StepAt.plain (i := 21) rfl ?_
          intro L ev w hI hk hp hA
          have e64 : ev (.tmp 64) = .bool true := hA.val 20 _ 64 rfl (hp ⟨20, .data⟩ (by simp) rfl) rfl
          have hcc := hA.const
          clear hA hp
          refine Reg.out_value (v := .bool true) ?_ ⟨rfl, hrefl _, hI⟩
          go_simp
        intro L act w' hall hI hF
        have h4 : act.eval (.tmp 4) = .bool true := hF.val 21 _ 4 rfl (hall 21 (by simp)) rfl
        have hd : act.defers = [] := hF.defers
        clear hF hall
        go_wp2
        refine bodyPost_ret (results_tmp rfl act.tmps Try.prog w') hd ?_
        exact ⟨congrArg Ending.returned h4, (HB3.out.trans (HBW.out.mono HB3.out.size)).trans (hI.mono (by have := HB3.out.size; have := HBW.out.size; omega))⟩
      · have HSV := hidq hSV
        clear hSV
        have hrefl : ∀ w : World, Reg.Keeps w w := Reg.Keeps.refl
        refine Reg.wp_region_props (Reg.ofList (same10Rt x y au0 au1 at0 at1 cu0 cu1 ct0 ct1 n6 m6 LA)) Reg.Keeps (fun _ w => Reg.Keeps wr w) (by kernel_rfl) (by kernel_rfl) (Reg.AllKept.at _ (same10Rt_kept x y au0 au1 at0 at1 cu0 cu1 ct0 ct1 n6 m6 LA)) hrefl ((Reg.Keeps.refl _).drewN 1) ⟨?_, ?_, ?_, ?_, ?_, ?_, ?_, ?_, ?_, ?_, ?_, ?_, ?_, ?_, ?_, ?_, ?_, ?_, ?_, ?_, ?_, ?_, trivial⟩ ?_
        · refine Reg.StepAt.plain (i := 0) rfl ?_
          intro L ev w hI hk hp hA
          have e5 : ev (.tmp 5) = .pointer (some ⟨pa, 0, none⟩) := hA.oldNone 5 (by kernel_rfl)
          have hcc := hA.const
          clear hA hp
          obtain ⟨⟨⟨v0, v1⟩, v2, v3⟩, ⟨⟨x0, x1⟩, x2, x3⟩, ⟨s0, s1⟩, s2, s3⟩ := FX.out w (HBW.out.trans (hI.mono HBW.out.size))
          clear s0 s1 s2 s3
          refine Reg.out_value (v := .agg #[.int .i64 x, .slice au0 n6 cu0]) ?_ ⟨rfl, hrefl _, hI⟩
          go_simp
        · refine Reg.StepAt.plain (i := 1) rfl ?_
          intro L ev w hI hk hp hA
          have e6 : ev (.tmp 6) = .pointer (some ⟨pb, 0, none⟩) := hA.oldNone 6 (by kernel_rfl)
          have hcc := hA.const
          clear hA hp
          obtain ⟨⟨⟨v0, v1⟩, v2, v3⟩, ⟨⟨x0, x1⟩, x2, x3⟩, ⟨s0, s1⟩, s2, s3⟩ := FX.out w (HBW.out.trans (hI.mono HBW.out.size))
          clear s0 s1 s2 s3
          refine Reg.out_value (v := .agg #[.int .i64 y, .slice au1 m6 cu1]) ?_ ⟨rfl, hrefl _, hI⟩
          go_simp
        · refine Reg.StepAt.plain (i := 2) rfl ?_
          intro L ev w hI hk hp hA
          have e44 : ev (.tmp 44) = .agg #[.int .i64 x, .slice au0 n6 cu0] := hA.val 0 _ 44 rfl (hp ⟨0, .data⟩ (by simp) rfl) rfl
          have e45 : ev (.tmp 45) = .agg #[.int .i64 y, .slice au1 m6 cu1] := hA.val 1 _ 45 rfl (hp ⟨1, .data⟩ (by simp) rfl) rfl
          have hcc := hA.const
          have hcf := hA.func
          clear hA hp
          obtain ⟨⟨⟨v0, v1⟩, v2, v3⟩, ⟨⟨x0, x1⟩, x2, x3⟩, ⟨s0, s1⟩, s2, s3⟩ := FX.out w (HBW.out.trans (hI.mono HBW.out.size))
          refine Reg.out_call (f := 35) (args := #[.agg #[.int .i64 x, .slice au0 n6 cu0], .agg #[.int .i64 y, .slice au1 m6 cu1]]) (w0 := w) ?_ ?_
          · clear s0 s1 s2 s3; go_simp
          refine (vsame_any x y au0 au1 cu0 cu1 n6 m6 LA LB w HLA.out HLB.out s0 s1 (by omega)).mono ?_
          rw [HSV.out]
          rintro e w' ⟨rfl, hb'⟩
          exact ⟨_, rfl, rfl, hb', Reg.Keeps.trans hI hb'⟩
        · refine Reg.StepAt.plain (i := 3) rfl ?_
          intro L ev w hI hk hp hA
          have e7 : ev (.tmp 7) = .pointer (some ⟨px, 0, none⟩) := hA.oldNone 7 (by kernel_rfl)
          have hcc := hA.const
          clear hA hp
          obtain ⟨⟨⟨v0, v1⟩, v2, v3⟩, ⟨⟨x0, x1⟩, x2, x3⟩, ⟨s0, s1⟩, s2, s3⟩ := FX.out w (HBW.out.trans (hI.mono HBW.out.size))
          clear s0 s1 s2 s3
          refine Reg.out_value (v := .agg #[.int .i64 x, .slice at0 n6 ct0]) ?_ ⟨rfl, hrefl _, hI⟩
          go_simp
        · refine Reg.StepAt.plain (i := 4) rfl ?_
          intro L ev w hI hk hp hA
          have e8 : ev (.tmp 8) = .pointer (some ⟨py, 0, none⟩) := hA.oldNone 8 (by kernel_rfl)
          have hcc := hA.const
          clear hA hp
          obtain ⟨⟨⟨v0, v1⟩, v2, v3⟩, ⟨⟨x0, x1⟩, x2, x3⟩, ⟨s0, s1⟩, s2, s3⟩ := FX.out w (HBW.out.trans (hI.mono HBW.out.size))
          clear s0 s1 s2 s3
          refine Reg.out_value (v := .agg #[.int .i64 y, .slice at1 m6 ct1]) ?_ ⟨rfl, hrefl _, hI⟩
          go_simp
        · refine Reg.StepAt.plain (i := 5) rfl ?_
          intro L ev w hI hk hp hA
          have e47 : ev (.tmp 47) = .agg #[.int .i64 x, .slice at0 n6 ct0] := hA.val 3 _ 47 rfl (hp ⟨3, .data⟩ (by simp) rfl) rfl
          have e48 : ev (.tmp 48) = .agg #[.int .i64 y, .slice at1 m6 ct1] := hA.val 4 _ 48 rfl (hp ⟨4, .data⟩ (by simp) rfl) rfl
          have hcc := hA.const
          have hcf := hA.func
          clear hA hp
          obtain ⟨⟨⟨v0, v1⟩, v2, v3⟩, ⟨⟨x0, x1⟩, x2, x3⟩, ⟨s0, s1⟩, s2, s3⟩ := FX.out w (HBW.out.trans (hI.mono HBW.out.size))
          refine Reg.out_call (f := 39) (args := #[.agg #[.int .i64 x, .slice at0 n6 ct0], .agg #[.int .i64 y, .slice at1 m6 ct1]]) (w0 := w) ?_ ?_
          · clear s0 s1 s2 s3; go_simp
          refine (rsame_any x y at0 at1 ct0 ct1 n6 m6 LA LB w HLA.out HLB.out s2 s3 (by omega)).mono ?_
          rw [HSV.out]
          rintro e w' ⟨rfl, hb'⟩
          exact ⟨_, rfl, rfl, hb', Reg.Keeps.trans hI hb'⟩
        · refine Reg.StepAt.plain (i := 6) rfl ?_
          intro L ev w hI hk hp hA
          have e49 : ev (.tmp 49) = .int .i64 0 := hA.val 5 _ 49 rfl (hp ⟨5, .data⟩ (by simp) rfl) rfl
          have hcc := hA.const
          clear hA hp
          refine Reg.out_value (v := .bool true) ?_ ⟨rfl, hrefl _, hI⟩
          go_simp
        · refine Reg.StepAt.plain (i := 7) rfl ?_
          intro L ev w hI hk hp hA
          have e46 : ev (.tmp 46) = .bool true := hA.val 2 _ 46 rfl (hp ⟨2, .data⟩ (by simp) rfl) rfl
          have e50 : ev (.tmp 50) = .bool true := hA.val 6 _ 50 rfl (hp ⟨6, .data⟩ (by simp) rfl) rfl
          have hcc := hA.const
          clear hA hp
          refine Reg.out_value (v := .bool true) ?_ ⟨rfl, hrefl _, hI⟩
          go_simp
        · refine Reg.StepAt.plain (i := 8) rfl ?_
          intro L ev w hI hk hp hA
          have e51 : ev (.tmp 51) = .bool true := hA.val 7 _ 51 rfl (hp ⟨7, .data⟩ (by simp) rfl) rfl
          have hcc := hA.const
          clear hA hp
          refine Reg.out_value (v := .bool true) ?_ ⟨rfl, hrefl _, hI⟩
          go_simp
        · refine Reg.StepAt.guarded (i := 9) rfl ?_
          intro L ev w hI hk hp hA
          have e5 : ev (.tmp 5) = .pointer (some ⟨pa, 0, none⟩) := hA.oldNone 5 (by kernel_rfl)
          have eg : ev (.tmp 52) = .bool true := hA.val 8 _ 52 rfl (hp ⟨8, .guard⟩ (by simp) rfl) rfl
          refine ⟨_, 52, true, rfl, rfl, eg, ?_⟩
          rw [if_pos rfl]
          have hcc := hA.const
          clear hA hp
          obtain ⟨⟨⟨v0, v1⟩, v2, v3⟩, ⟨⟨x0, x1⟩, x2, x3⟩, ⟨s0, s1⟩, s2, s3⟩ := FX.out w (HBW.out.trans (hI.mono HBW.out.size))
          clear s0 s1 s2 s3
          refine Reg.out_value (v := .agg #[.int .i64 x, .slice au0 n6 cu0]) ?_ ⟨rfl, hrefl _, hI⟩
          go_simp
        · refine Reg.StepAt.guarded (i := 10) rfl ?_
          intro L ev w hI hk hp hA
          have e5 : ev (.tmp 5) = .pointer (some ⟨pa, 0, none⟩) := hA.oldNone 5 (by kernel_rfl)
          have eg : ev (.tmp 52) = .bool true := hA.val 8 _ 52 rfl (hp ⟨8, .guard⟩ (by simp) rfl) rfl
          refine ⟨_, 52, true, rfl, rfl, eg, ?_⟩
          rw [if_pos rfl]
          have hcc := hA.const
          clear hA hp
          obtain ⟨⟨⟨v0, v1⟩, v2, v3⟩, ⟨⟨x0, x1⟩, x2, x3⟩, ⟨s0, s1⟩, s2, s3⟩ := FX.out w (HBW.out.trans (hI.mono HBW.out.size))
          clear s0 s1 s2 s3
          refine Reg.out_value (v := .agg #[.int .i64 x, .slice au0 n6 cu0]) ?_ ⟨rfl, hrefl _, hI⟩
          go_simp
        · refine Reg.StepAt.guarded (i := 11) rfl ?_
          intro L ev w hI hk hp hA
          have e54 : ev (.tmp 54) = .agg #[.int .i64 x, .slice au0 n6 cu0] := hA.val 10 _ 54 rfl (hp ⟨10, .data⟩ (by simp) rfl) rfl
          have eg : ev (.tmp 52) = .bool true := hA.val 8 _ 52 rfl (hp ⟨8, .chain⟩ (by simp) rfl) rfl
          refine ⟨_, 52, true, rfl, rfl, eg, ?_⟩
          rw [if_pos rfl]
          have hcc := hA.const
          have hcf := hA.func
          clear hA hp
          obtain ⟨⟨⟨v0, v1⟩, v2, v3⟩, ⟨⟨x0, x1⟩, x2, x3⟩, ⟨s0, s1⟩, s2, s3⟩ := FX.out w (HBW.out.trans (hI.mono HBW.out.size))
          refine Reg.out_call (f := 40) (args := #[.agg #[.int .i64 x, .slice au0 n6 cu0]]) (w0 := w) ?_ ?_
          · clear s0 s1 s2 s3; go_simp
          refine (vclone_any x au0 cu0 n6 _ w s0 (by omega)).mono ?_
          rintro e w' ⟨a', c', rfl, hS', hF', hb'⟩
          exact ⟨_, rfl, ⟨a', c', rfl, hS'⟩, hb', Reg.Keeps.trans hI hb'⟩
        · refine Reg.StepAt.guarded (i := 12) rfl ?_
          intro L ev w hI hk hp hA
          have e53 : ev (.tmp 53) = .agg #[.int .i64 x, .slice au0 n6 cu0] := hA.val 9 _ 53 rfl (hp ⟨9, .data⟩ (by simp) rfl) rfl
          have e55 : (fun v w => ∃ a c, v = .agg #[.int .i64 x, .slice a n6 c] ∧ SlAt 2 w a c n6 (flatI (kts LA))) (ev (.tmp 55)) w := hA.val 11 _ 55 rfl (hp ⟨11, .data⟩ (by simp) rfl) rfl
          have eg : ev (.tmp 52) = .bool true := hA.val 8 _ 52 rfl (hp ⟨8, .guard⟩ (by simp) rfl) rfl
          refine ⟨_, 52, true, rfl, rfl, eg, ?_⟩
          rw [if_pos rfl]
          have hcc := hA.const
          have hcf := hA.func
          clear hA hp
          obtain ⟨⟨⟨v0, v1⟩, v2, v3⟩, ⟨⟨x0, x1⟩, x2, x3⟩, ⟨s0, s1⟩, s2, s3⟩ := FX.out w (HBW.out.trans (hI.mono HBW.out.size))
          obtain ⟨a9, c9, e9, hS9⟩ := e55
          refine Reg.out_call (f := 35) (args := #[.agg #[.int .i64 x, .slice au0 n6 cu0], .agg #[.int .i64 x, .slice a9 n6 c9]]) (w0 := w) ?_ ?_
          · clear s0 s1 s2 s3 hS9; go_simp
          refine (vsame_any x x au0 a9 cu0 c9 n6 n6 LA LA w HLA.out HLA.out s0 hS9 (by omega)).mono ?_
          rw [sameV_self]
          rintro e w' ⟨rfl, hb'⟩
          exact ⟨_, rfl, rfl, hb', Reg.Keeps.trans hI hb'⟩
        · refine Reg.StepAt.plain (i := 13) rfl ?_
          intro L ev w hI hk hp hA
          have e52 : ev (.tmp 52) = .bool true := hA.val 8 _ 52 rfl (hp ⟨8, .data⟩ (by simp) rfl) rfl
          have e56 : ev (.tmp 56) = .bool true := hA.val 12 _ 56 rfl (hp ⟨12, .data⟩ (by simp) rfl) rfl
          have hcc := hA.const
          clear hA hp
          refine Reg.out_value (v := .bool true) ?_ ⟨rfl, hrefl _, hI⟩
          go_simp
        · refine Reg.StepAt.plain (i := 14) rfl ?_
          intro L ev w hI hk hp hA
          have e57 : ev (.tmp 57) = .bool true := hA.val 13 _ 57 rfl (hp ⟨13, .data⟩ (by simp) rfl) rfl
          have hcc := hA.const
          clear hA hp
          refine Reg.out_value (v := .bool true) ?_ ⟨rfl, hrefl _, hI⟩
          go_simp
        · refine Reg.StepAt.guarded (i := 15) rfl ?_
          intro L ev w hI hk hp hA
          have e5 : ev (.tmp 5) = .pointer (some ⟨pa, 0, none⟩) := hA.oldNone 5 (by kernel_rfl)
          have eg : ev (.tmp 58) = .bool true := hA.val 14 _ 58 rfl (hp ⟨14, .guard⟩ (by simp) rfl) rfl
          refine ⟨_, 58, true, rfl, rfl, eg, ?_⟩
          rw [if_pos rfl]
          have hcc := hA.const
          clear hA hp
          obtain ⟨⟨⟨v0, v1⟩, v2, v3⟩, ⟨⟨x0, x1⟩, x2, x3⟩, ⟨s0, s1⟩, s2, s3⟩ := FX.out w (HBW.out.trans (hI.mono HBW.out.size))
          clear s0 s1 s2 s3
          refine Reg.out_value (v := .agg #[.int .i64 x, .slice au0 n6 cu0]) ?_ ⟨rfl, hrefl _, hI⟩
          go_simp
        · refine Reg.StepAt.guarded (i := 16) rfl ?_
          intro L ev w hI hk hp hA
          have e59 : ev (.tmp 59) = .agg #[.int .i64 x, .slice au0 n6 cu0] := hA.val 15 _ 59 rfl (hp ⟨15, .data⟩ (by simp) rfl) rfl
          have eg : ev (.tmp 58) = .bool true := hA.val 14 _ 58 rfl (hp ⟨14, .chain⟩ (by simp) rfl) rfl
          refine ⟨_, 58, true, rfl, rfl, eg, ?_⟩
          rw [if_pos rfl]
          have hcc := hA.const
          have hcf := hA.func
          clear hA hp
          obtain ⟨⟨⟨v0, v1⟩, v2, v3⟩, ⟨⟨x0, x1⟩, x2, x3⟩, ⟨s0, s1⟩, s2, s3⟩ := FX.out w (HBW.out.trans (hI.mono HBW.out.size))
          refine Reg.out_call (f := 40) (args := #[.agg #[.int .i64 x, .slice au0 n6 cu0]]) (w0 := w) ?_ ?_
          · clear s0 s1 s2 s3; go_simp
          refine (vclone_any x au0 cu0 n6 _ w s0 (by omega)).mono ?_
          rintro e w' ⟨a', c', rfl, hS', hF', hb'⟩
          exact ⟨_, rfl, ⟨a', c', rfl, hS'⟩, hb', Reg.Keeps.trans hI hb'⟩
        · refine Reg.StepAt.guarded (i := 17) rfl ?_
          intro L ev w hI hk hp hA
          have e7 : ev (.tmp 7) = .pointer (some ⟨px, 0, none⟩) := hA.oldNone 7 (by kernel_rfl)
          have eg : ev (.tmp 58) = .bool true := hA.val 14 _ 58 rfl (hp ⟨14, .guard⟩ (by simp) rfl) rfl
          refine ⟨_, 58, true, rfl, rfl, eg, ?_⟩
          rw [if_pos rfl]
          have hcc := hA.const
          clear hA hp
          obtain ⟨⟨⟨v0, v1⟩, v2, v3⟩, ⟨⟨x0, x1⟩, x2, x3⟩, ⟨s0, s1⟩, s2, s3⟩ := FX.out w (HBW.out.trans (hI.mono HBW.out.size))
          clear s0 s1 s2 s3
          refine Reg.out_value (v := .agg #[.int .i64 x, .slice at0 n6 ct0]) ?_ ⟨rfl, hrefl _, hI⟩
          go_simp
        · refine Reg.StepAt.guarded (i := 18) rfl ?_
          intro L ev w hI hk hp hA
          have e60 : (fun v w => ∃ a c, v = .agg #[.int .i64 x, .slice a n6 c] ∧ SlAt 2 w a c n6 (flatI (kts LA))) (ev (.tmp 60)) w := hA.val 16 _ 60 rfl (hp ⟨16, .data⟩ (by simp) rfl) rfl
          have e61 : ev (.tmp 61) = .agg #[.int .i64 x, .slice at0 n6 ct0] := hA.val 17 _ 61 rfl (hp ⟨17, .data⟩ (by simp) rfl) rfl
          have eg : ev (.tmp 58) = .bool true := hA.val 14 _ 58 rfl (hp ⟨14, .guard⟩ (by simp) rfl) rfl
          refine ⟨_, 58, true, rfl, rfl, eg, ?_⟩
          rw [if_pos rfl]
          have hcc := hA.const
          have hcf := hA.func
          clear hA hp
          obtain ⟨⟨⟨v0, v1⟩, v2, v3⟩, ⟨⟨x0, x1⟩, x2, x3⟩, ⟨s0, s1⟩, s2, s3⟩ := FX.out w (HBW.out.trans (hI.mono HBW.out.size))
          obtain ⟨a9, c9, e9, hS9⟩ := e60
          refine Reg.out_call (f := 30) (args := #[.agg #[.int .i64 x, .slice a9 n6 c9], .agg #[.int .i64 x, .slice at0 n6 ct0]]) (w0 := w) ?_ ?_
          · clear s0 s1 s2 s3 hS9; go_simp
          refine (is5_any x a9 at0 c9 ct0 n6 LA w HLA.out hS9 s2 (by omega)).mono ?_
          rintro e w' ⟨rfl, hb'⟩
          exact ⟨_, rfl, rfl, hb', Reg.Keeps.trans hI hb'⟩
        · refine Reg.StepAt.guarded (i := 19) rfl ?_
          intro L ev w hI hk hp hA
          have e62 : ev (.tmp 62) = .int .i64 0 := hA.val 18 _ 62 rfl (hp ⟨18, .data⟩ (by simp) rfl) rfl
          have eg : ev (.tmp 58) = .bool true := hA.val 14 _ 58 rfl (hp ⟨14, .guard⟩ (by simp) rfl) rfl
          refine ⟨_, 58, true, rfl, rfl, eg, ?_⟩
          rw [if_pos rfl]
          have hcc := hA.const
          clear hA hp
          refine Reg.out_value (v := .bool true) ?_ ⟨rfl, hrefl _, hI⟩
          go_simp
        · refine Reg.StepAt.plain (i := 20) rfl ?_
          intro L ev w hI hk hp hA
          have e58 : ev (.tmp 58) = .bool true := hA.val 14 _ 58 rfl (hp ⟨14, .data⟩ (by simp) rfl) rfl
          have e63 : ev (.tmp 63) = .bool true := hA.val 19 _ 63 rfl (hp ⟨19, .data⟩ (by simp) rfl) rfl
          have hcc := hA.const
          clear hA hp
          refine Reg.out_value (v := .bool true) ?_ ⟨rfl, hrefl _, hI⟩
          go_simp
        · refine Reg.StepAt.plain (i := 21) rfl ?_
          intro L ev w hI hk hp hA
          have e64 : ev (.tmp 64) = .bool true := hA.val 20 _ 64 rfl (hp ⟨20, .data⟩ (by simp) rfl) rfl
          have hcc := hA.const
          clear hA hp
          refine Reg.out_value (v := .bool true) ?_ ⟨rfl, hrefl _, hI⟩
          go_simp
        intro L act w' hall hI hF
        have h4 : act.eval (.tmp 4) = .bool true := hF.val 21 _ 4 rfl (hall 21 (by simp)) rfl
        have hd : act.defers = [] := hF.defers
        clear hF hall
        go_wp2
        refine bodyPost_ret (results_tmp rfl act.tmps Try.prog w') hd ?_
        exact ⟨congrArg Ending.returned h4, (HB3.out.trans (HBW.out.mono HB3.out.size)).trans (hI.mono (by have := HB3.out.size; have := HBW.out.size; omega))⟩
end Go.Proofs.Ytogacknpkoiokaa
