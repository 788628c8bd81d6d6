/-
  Layer 9: what a queue's steps do; the cell of the slot that is next: contract.
  A region that draws its order in which some operations turn memory that was there (an append, a store), one behind the other: their number is carried on as a ghost; all others only read, or make memory.
  Layer 9: an end says the segment: contract.
  Layer 9: the next slot is looked at: contract.
  Layer 9: an end moves on; a slot is written: contracts.
  A heap in an array: what sifting down and up keeps. Plain arrays.
  Layer 4: items, their order, their places: contracts.
  Canonical items, and their order.
  Layer 4: the library's heap over a pile's items: contracts.
  Calls through the heap's interface of a pile's items: which function is met, with which receiver.
-/
import Derived.Test.YtclcmabohpoaiaaKf9aAll
import Derived.Test.YtclcmabohpoaiaaTopAll
import Derived.Test.YtclcmabohpoaiaaRealW
import Derived.Test.YtclcmabohpoaiaaFits5All
import Derived.StillTailTactics
import Derived.Sort.Lot0
import Derived.Sort.LotA
import Derived.BigQuiet
import Derived.Deep.QuietTactic
import Derived.Deep.RegionWith
namespace Go.Proofs.Ytclcmabohpoaiaa
open Go.RowKit Go.Sort

/-- The cell of the slot that is next. -/
def kAt (k : Int) (F : Fr) : Int := if F.seg < 0 ∨ 1000 < F.seg then -1 else kslot k F.seg (into (into F.d0 k + F.seen) k)
/-- An end says the segment. -/
def kBegin (M : Mem) (F : Fr) (e : Int) : Fr := { F with at_ := e, c0 := M.look e, seg := (M.look e).n, seen := 0, empty := false }
/-- The next slot is looked at. -/
def kLook (k want : Int) (M : Mem) (F : Fr) : Fr :=
  if (M.look (kAt k F)).n = want then { F with empty := F.empty || decide ((M.look (kAt k F)).n = 0), c1 := M.look (kAt k F), pc := 3 }
  else { F with empty := F.empty || decide ((M.look (kAt k F)).n = 0), seen := F.seen + 1, pc := if F.seen + 1 = k then 4 else F.pc }
/-- A slot is written. -/
def kWrite (k x : Int) (L : List It) (p : Nat) (v : Int) (M : Mem) (F : Fr) : Mem × Fr × Ans × Bool :=
  (M.write (kAt k F) F.c1.ver x L, { F with pc := 0 }, if M.can (kAt k F) F.c1.ver = true then ⟨true, p, v, 0⟩ else Ans.zero, M.can (kAt k F) F.c1.ver)
/-- An end moves on. -/
def kMove (M : Mem) (F : Fr) : Mem × Fr × Ans × Bool := (M.write F.at_ F.c0.ver (F.seg + 1) [], { F with pc := 0 }, Ans.zero, false)

def kat3R (nb fb : Nat) (F : Fr) (k u j z : Int) : List (Value → World → Prop) :=
  [fun v _ => v = .agg #[.int .i64 k],
   fun v _ => v = .pointer (some ⟨fb, 0, none⟩),
   fun v _ => v = .pointer (some ⟨fb, 0, none⟩),
   fun v _ => v = .pointer (some ⟨fb, 8, none⟩),
   fun v _ => v = .int .i64 F.seg,
   fun v _ => v = .pointer (some ⟨fb, 0, none⟩),
   fun v _ => v = .pointer (some ⟨fb, 0, none⟩),
   fun v _ => v = .pointer (some ⟨fb, 0, none⟩),
   fun v _ => v = .pointer (some ⟨fb, 3, none⟩),
   fun v _ => v = .pointer (some ⟨fb, 3, none⟩),
   fun v _ => v = .int .i64 F.d0,
   fun v _ => v = .pointer (some ⟨nb, 0, none⟩),
   fun v _ => v = .int .i64 k,
   fun v _ => v = .int .i64 u,
   fun v _ => v = .pointer (some ⟨fb, 0, none⟩),
   fun v _ => v = .pointer (some ⟨fb, 0, none⟩),
   fun v _ => v = .pointer (some ⟨fb, 7, none⟩),
   fun v _ => v = .int .i64 F.seen,
   fun v _ => v = .int .i64 (u + F.seen),
   fun v _ => v = .pointer (some ⟨nb, 0, none⟩),
   fun v _ => v = .int .i64 k,
   fun v _ => v = .int .i64 j,
   fun v _ => v = .int .i64 z]
theorem kat3R_kept (nb fb : Nat) (F : Fr) (k u j z : Int) : Reg.AllKept Reg.Keeps (kat3R nb fb F k u j z) :=
  ⟨(fun _ _ _ _ h => h), (fun _ _ _ _ h => h), (fun _ _ _ _ h => h), (fun _ _ _ _ h => h), (fun _ _ _ _ h => h), (fun _ _ _ _ h => h), (fun _ _ _ _ h => h), (fun _ _ _ _ h => h), (fun _ _ _ _ h => h), (fun _ _ _ _ h => h), (fun _ _ _ _ h => h), (fun _ _ _ _ h => h), (fun _ _ _ _ h => h), (fun _ _ _ _ h => h), (fun _ _ _ _ h => h), (fun _ _ _ _ h => h), (fun _ _ _ _ h => h), (fun _ _ _ _ h => h), (fun _ _ _ _ h => h), (fun _ _ _ _ h => h), (fun _ _ _ _ h => h), (fun _ _ _ _ h => h), (fun _ _ _ _ h => h), trivial⟩

theorem kAt_in {k : Int} {F : Fr} (h : 0 ≤ F.seg ∧ F.seg ≤ 1000) : kAt k F = kslot k F.seg (into (into F.d0 k + F.seen) k) := by
  unfold kAt; rw [if_neg (by omega)]
theorem kAt_out {k : Int} {F : Fr} (h : F.seg < 0 ∨ 1000 < F.seg) : kAt k F = -1 := by
  unfold kAt; rw [if_pos h]

set_option maxRecDepth 20000 in
set_option maxHeartbeats 4000000 in
theorem kat_any (k : Int) (w : World) (fb : Nat) (F : Fr) (hk : 1 ≤ k ∧ k ≤ 16) (hfl : fb < w.heap.size) (c3 : w.cell? ⟨fb, 3, none⟩ = some (.int .i64 F.d0)) (c7 : w.cell? ⟨fb, 7, none⟩ = some (.int .i64 F.seen)) (c8 : w.cell? ⟨fb, 8, none⟩ = some (.int .i64 F.seg)) (hs : 0 ≤ F.seen ∧ F.seen ≤ 100) :
    Calls Try.prog 121 #[.agg #[.int .i64 k], .pointer (some ⟨fb, 0, none⟩)] w fun e w' => e = .returned (.int .i64 (kAt k F)) ∧ Below w.heap.size w w' := by
  obtain ⟨nb, hnb⟩ : ∃ nb, w.heap.size = nb := ⟨_, rfl⟩
  obtain ⟨W1, hW1⟩ : ∃ W1, w.alloc (.cells #[.int .i64 k] 57) = W1 := ⟨_, rfl⟩
  have hB := BoxAt.new w [.int .i64 k] 57
  rw [show w.alloc (.cells [.int .i64 k].toArray 57) = W1 from hW1, hnb] at hB
  have hb1 : Below w.heap.size w W1 := by rw [← hW1]; exact (Below.refl _ _).alloc (Nat.le_refl _) _
  have d3 := (hb1.cell (p := ⟨fb, 3, none⟩) hfl).trans c3
  have d7 := (hb1.cell (p := ⟨fb, 7, none⟩) hfl).trans c7
  have d8 := (hb1.cell (p := ⟨fb, 8, none⟩) hfl).trans c8
  have hfl1 : fb < W1.heap.size := Nat.lt_of_lt_of_le hfl hb1.size
  have r0 := (hB.get 0 _ rfl).1
  have hrl := hB.lt
  by_cases h0 : F.seg < 0
  · rw [kAt_out (.inl h0)]
    have HB := hidq hb1
    clear hB hb1 d3 d7 c3 c7 c8 hs hk
    go_enter Try.func121, Try.ntmps121
    go_wp2_with fail
    go_ret
    exact ⟨rfl, HB.out⟩
  · have t0 : decide (F.seg < 0) = false := decide_eq_false h0
    by_cases h1 : 1000 < F.seg
    · rw [kAt_out (.inr h1)]
      have HB := hidq hb1
      clear hB hb1 d3 d7 c3 c7 c8 hs hk h0
      go_enter Try.func121, Try.ntmps121
      go_wp2_with fail
      go_ret
      exact ⟨rfl, HB.out⟩
    · have t1 : decide (1000 < F.seg) = false := decide_eq_false h1
      rw [kAt_in (by omega)]
      have hi := into_rng (d := F.d0) (n := k) hk.1
      have hI1 := hidq (fun W => into_any F.d0 k W (by omega))
      obtain ⟨u, hu⟩ : ∃ u, into F.d0 k = u := ⟨_, rfl⟩
      rw [hu] at hI1 hi ⊢
      have hj := into_rng (d := u + F.seen) (n := k) hk.1
      have hI2 := hidq (fun W => into_any (u + F.seen) k W (by omega))
      obtain ⟨j, hj2⟩ : ∃ j, into (u + F.seen) k = j := ⟨_, rfl⟩
      rw [hj2] at hI2 hj ⊢
      have hSl := hidq (fun W => kslot_any k F.seg j W hk (by omega) (by omega))
      obtain ⟨z, hz⟩ : ∃ z, kslot k F.seg j = z := ⟨_, rfl⟩
      rw [hz] at hSl ⊢
      have FC := hidq (fun W (hW : Below W1.heap.size W1 W) => And.intro ((hW.cell (p := ⟨fb, 3, none⟩) hfl1).trans d3) (And.intro ((hW.cell (p := ⟨fb, 7, none⟩) hfl1).trans d7) (And.intro ((hW.cell (p := ⟨fb, 8, none⟩) hfl1).trans d8) ((hB.below hW).get 0 _ rfl).1)))
      have HB := hidq hb1
      have hrefl : ∀ w : World, Reg.Keeps w w := Reg.Keeps.refl
      have hub : 0 ≤ u + F.seen ∧ u + F.seen ≤ 1000 := by omega
      obtain ⟨hub0, hub1⟩ := hub
      clear hB hb1 d3 d7 c3 c7 c8 hk h0 h1 hi hj hu hj2 hz hs
      go_enter Try.func121, Try.ntmps121
      go_wp2_with fail
      have hrefl : ∀ w : World, Reg.Keeps w w := Reg.Keeps.refl
      refine Reg.wp_region_props_tail 23 (Reg.ofList (kat3R nb fb F k u j z)) Reg.Keeps (fun _ w => Reg.Keeps W1 w) (by kernel_rfl) (by kernel_rfl) (by kernel_rfl) (Reg.AllKept.at _ (kat3R_kept nb fb F k u j z)) hrefl (Reg.Keeps.drewN (Reg.Keeps.refl _) 1) ⟨?_, ?_, ?_, ?_, ?_, ?_, ?_, ?_, ?_, ?_, ?_, ?_, ?_, ?_, ?_, ?_, ?_, ?_, ?_, ?_, ?_, ?_, ?_, trivial⟩ ?_
      · refine Reg.StepAt.plain (i := 0) rfl ?_
        intro L ev w hI hk hp hA
        have e2 : ev (.tmp 2) = .pointer (some ⟨nb, 0, none⟩) := hA.oldNone 2 (by kernel_rfl)
        have hcc := hA.const
        clear hA hp
        obtain ⟨f3, f7, f8, m0⟩ := FC.out w hI
        refine Reg.out_value (v := .agg #[.int .i64 k]) ?_ ⟨rfl, hrefl _, hI⟩
        go_simp
      · refine Reg.StepAt.plain (i := 1) rfl ?_
        intro L ev w hI hk hp hA
        have e1 : ev (.tmp 1) = .pointer (some ⟨fb, 0, none⟩) := hA.oldNone 1 (by kernel_rfl)
        have hcc := hA.const
        clear hA hp
        refine Reg.out_value (v := .pointer (some ⟨fb, 0, none⟩)) ?_ ⟨rfl, hrefl _, hI⟩
        go_simp
      · refine Reg.StepAt.plain (i := 2) rfl ?_
        intro L ev w hI hk hp hA
        have e18 : ev (.tmp 18) = .pointer (some ⟨fb, 0, none⟩) := hA.val 1 _ 18 rfl (hp ⟨1, .data⟩ (by simp) rfl) rfl
        have hcc := hA.const
        clear hA hp
        refine Reg.out_value (v := .pointer (some ⟨fb, 0, none⟩)) ?_ ⟨rfl, hrefl _, hI⟩
        go_simp
      · refine Reg.StepAt.plain (i := 3) rfl ?_
        intro L ev w hI hk hp hA
        have e19 : ev (.tmp 19) = .pointer (some ⟨fb, 0, none⟩) := hA.val 2 _ 19 rfl (hp ⟨2, .data⟩ (by simp) rfl) rfl
        have hcc := hA.const
        clear hA hp
        refine Reg.out_value (v := .pointer (some ⟨fb, 8, none⟩)) ?_ ⟨rfl, hrefl _, hI⟩
        go_simp
      · refine Reg.StepAt.plain (i := 4) rfl ?_
        intro L ev w hI hk hp hA
        have e20 : ev (.tmp 20) = .pointer (some ⟨fb, 8, none⟩) := hA.val 3 _ 20 rfl (hp ⟨3, .data⟩ (by simp) rfl) rfl
        have hcc := hA.const
        clear hA hp
        obtain ⟨f3, f7, f8, m0⟩ := FC.out w hI
        refine Reg.out_value (v := .int .i64 F.seg) ?_ ⟨rfl, hrefl _, hI⟩
        go_simp
      · refine Reg.StepAt.plain (i := 5) rfl ?_
        intro L ev w hI hk hp hA
        have e1 : ev (.tmp 1) = .pointer (some ⟨fb, 0, none⟩) := hA.oldNone 1 (by kernel_rfl)
        have hcc := hA.const
        clear hA hp
        refine Reg.out_value (v := .pointer (some ⟨fb, 0, none⟩)) ?_ ⟨rfl, hrefl _, hI⟩
        go_simp
      · refine Reg.StepAt.plain (i := 6) rfl ?_
        intro L ev w hI hk hp hA
        have e22 : ev (.tmp 22) = .pointer (some ⟨fb, 0, none⟩) := hA.val 5 _ 22 rfl (hp ⟨5, .data⟩ (by simp) rfl) rfl
        have hcc := hA.const
        clear hA hp
        refine Reg.out_value (v := .pointer (some ⟨fb, 0, none⟩)) ?_ ⟨rfl, hrefl _, hI⟩
        go_simp
      · refine Reg.StepAt.plain (i := 7) rfl ?_
        intro L ev w hI hk hp hA
        have e23 : ev (.tmp 23) = .pointer (some ⟨fb, 0, none⟩) := hA.val 6 _ 23 rfl (hp ⟨6, .data⟩ (by simp) rfl) rfl
        have hcc := hA.const
        clear hA hp
        refine Reg.out_value (v := .pointer (some ⟨fb, 0, none⟩)) ?_ ⟨rfl, hrefl _, hI⟩
        go_simp
      · refine Reg.StepAt.plain (i := 8) rfl ?_
        intro L ev w hI hk hp hA
        have e24 : ev (.tmp 24) = .pointer (some ⟨fb, 0, none⟩) := hA.val 7 _ 24 rfl (hp ⟨7, .data⟩ (by simp) rfl) rfl
        have hcc := hA.const
        clear hA hp
        refine Reg.out_value (v := .pointer (some ⟨fb, 3, none⟩)) ?_ ⟨rfl, hrefl _, hI⟩
        go_simp
      · refine Reg.StepAt.plain (i := 9) rfl ?_
        intro L ev w hI hk hp hA
        have e25 : ev (.tmp 25) = .pointer (some ⟨fb, 3, none⟩) := hA.val 8 _ 25 rfl (hp ⟨8, .data⟩ (by simp) rfl) rfl
        have hcc := hA.const
        clear hA hp
        refine Reg.out_value (v := .pointer (some ⟨fb, 3, none⟩)) ?_ ⟨rfl, hrefl _, hI⟩
        go_simp
      · refine Reg.StepAt.plain (i := 10) rfl ?_
        intro L ev w hI hk hp hA
        have e26 : ev (.tmp 26) = .pointer (some ⟨fb, 3, none⟩) := hA.val 9 _ 26 rfl (hp ⟨9, .data⟩ (by simp) rfl) rfl
        have hcc := hA.const
        clear hA hp
        obtain ⟨f3, f7, f8, m0⟩ := FC.out w hI
        refine Reg.out_value (v := .int .i64 F.d0) ?_ ⟨rfl, hrefl _, hI⟩
        go_simp
      · refine Reg.StepAt.plain (i := 11) rfl ?_
        intro L ev w hI hk hp hA
        have e2 : ev (.tmp 2) = .pointer (some ⟨nb, 0, none⟩) := hA.oldNone 2 (by kernel_rfl)
        have hcc := hA.const
        clear hA hp
        refine Reg.out_value (v := .pointer (some ⟨nb, 0, none⟩)) ?_ ⟨rfl, hrefl _, hI⟩
        go_simp
      · refine Reg.StepAt.plain (i := 12) rfl ?_
        intro L ev w hI hk hp hA
        have e28 : ev (.tmp 28) = .pointer (some ⟨nb, 0, none⟩) := hA.val 11 _ 28 rfl (hp ⟨11, .data⟩ (by simp) rfl) rfl
        have hcc := hA.const
        clear hA hp
        obtain ⟨f3, f7, f8, m0⟩ := FC.out w hI
        refine Reg.out_value (v := .int .i64 k) ?_ ⟨rfl, hrefl _, hI⟩
        go_simp
      · refine Reg.StepAt.plain (i := 13) rfl ?_
        intro L ev w hI hk hp hA
        have e27 : ev (.tmp 27) = .int .i64 F.d0 := hA.val 10 _ 27 rfl (hp ⟨10, .data⟩ (by simp) rfl) rfl
        have e29 : ev (.tmp 29) = .int .i64 k := hA.val 12 _ 29 rfl (hp ⟨12, .data⟩ (by simp) rfl) rfl
        have hcc := hA.const
        have hcf := hA.func
        clear hA hp
        refine Reg.out_call (f := 31) (args := #[.int .i64 F.d0, .int .i64 k]) (w0 := w) ?_ ?_
        · go_simp
        refine (hI1.out w).mono ?_
        rintro e w' ⟨rfl, hw⟩
        subst hw; exact ⟨_, rfl, rfl, hrefl _, hI⟩
      · refine Reg.StepAt.plain (i := 14) rfl ?_
        intro L ev w hI hk hp hA
        have e1 : ev (.tmp 1) = .pointer (some ⟨fb, 0, none⟩) := hA.oldNone 1 (by kernel_rfl)
        have hcc := hA.const
        clear hA hp
        refine Reg.out_value (v := .pointer (some ⟨fb, 0, none⟩)) ?_ ⟨rfl, hrefl _, hI⟩
        go_simp
      · refine Reg.StepAt.plain (i := 15) rfl ?_
        intro L ev w hI hk hp hA
        have e31 : ev (.tmp 31) = .pointer (some ⟨fb, 0, none⟩) := hA.val 14 _ 31 rfl (hp ⟨14, .data⟩ (by simp) rfl) rfl
        have hcc := hA.const
        clear hA hp
        refine Reg.out_value (v := .pointer (some ⟨fb, 0, none⟩)) ?_ ⟨rfl, hrefl _, hI⟩
        go_simp
      · refine Reg.StepAt.plain (i := 16) rfl ?_
        intro L ev w hI hk hp hA
        have e32 : ev (.tmp 32) = .pointer (some ⟨fb, 0, none⟩) := hA.val 15 _ 32 rfl (hp ⟨15, .data⟩ (by simp) rfl) rfl
        have hcc := hA.const
        clear hA hp
        refine Reg.out_value (v := .pointer (some ⟨fb, 7, none⟩)) ?_ ⟨rfl, hrefl _, hI⟩
        go_simp
      · refine Reg.StepAt.plain (i := 17) rfl ?_
        intro L ev w hI hk hp hA
        have e33 : ev (.tmp 33) = .pointer (some ⟨fb, 7, none⟩) := hA.val 16 _ 33 rfl (hp ⟨16, .data⟩ (by simp) rfl) rfl
        have hcc := hA.const
        clear hA hp
        obtain ⟨f3, f7, f8, m0⟩ := FC.out w hI
        refine Reg.out_value (v := .int .i64 F.seen) ?_ ⟨rfl, hrefl _, hI⟩
        go_simp
      · refine Reg.StepAt.plain (i := 18) rfl ?_
        intro L ev w hI hk hp hA
        have e30 : ev (.tmp 30) = .int .i64 u := hA.val 13 _ 30 rfl (hp ⟨13, .data⟩ (by simp) rfl) rfl
        have e34 : ev (.tmp 34) = .int .i64 F.seen := hA.val 17 _ 34 rfl (hp ⟨17, .data⟩ (by simp) rfl) rfl
        have hcc := hA.const
        clear hA hp
        refine Reg.out_value (v := .int .i64 (u + F.seen)) ?_ ⟨rfl, hrefl _, hI⟩
        (go_simp <;> (rw [IntKind.wrap_i64]; omega))
      · refine Reg.StepAt.plain (i := 19) rfl ?_
        intro L ev w hI hk hp hA
        have e2 : ev (.tmp 2) = .pointer (some ⟨nb, 0, none⟩) := hA.oldNone 2 (by kernel_rfl)
        have hcc := hA.const
        clear hA hp
        refine Reg.out_value (v := .pointer (some ⟨nb, 0, none⟩)) ?_ ⟨rfl, hrefl _, hI⟩
        go_simp
      · refine Reg.StepAt.plain (i := 20) rfl ?_
        intro L ev w hI hk hp hA
        have e36 : ev (.tmp 36) = .pointer (some ⟨nb, 0, none⟩) := hA.val 19 _ 36 rfl (hp ⟨19, .data⟩ (by simp) rfl) rfl
        have hcc := hA.const
        clear hA hp
        obtain ⟨f3, f7, f8, m0⟩ := FC.out w hI
        refine Reg.out_value (v := .int .i64 k) ?_ ⟨rfl, hrefl _, hI⟩
        go_simp
      · refine Reg.StepAt.plain (i := 21) rfl ?_
        intro L ev w hI hk hp hA
        have e35 : ev (.tmp 35) = .int .i64 (u + F.seen) := hA.val 18 _ 35 rfl (hp ⟨18, .data⟩ (by simp) rfl) rfl
        have e37 : ev (.tmp 37) = .int .i64 k := hA.val 20 _ 37 rfl (hp ⟨20, .data⟩ (by simp) rfl) rfl
        have hcc := hA.const
        have hcf := hA.func
        clear hA hp
        refine Reg.out_call (f := 31) (args := #[.int .i64 (u + F.seen), .int .i64 k]) (w0 := w) ?_ ?_
        · go_simp
        refine (hI2.out w).mono ?_
        rintro e w' ⟨rfl, hw⟩
        subst hw; exact ⟨_, rfl, rfl, hrefl _, hI⟩
      · refine Reg.StepAt.plain (i := 22) rfl ?_
        intro L ev w hI hk hp hA
        have e17 : ev (.tmp 17) = .agg #[.int .i64 k] := hA.val 0 _ 17 rfl (hp ⟨0, .data⟩ (by simp) rfl) rfl
        have e21 : ev (.tmp 21) = .int .i64 F.seg := hA.val 4 _ 21 rfl (hp ⟨4, .data⟩ (by simp) rfl) rfl
        have e38 : ev (.tmp 38) = .int .i64 j := hA.val 21 _ 38 rfl (hp ⟨21, .data⟩ (by simp) rfl) rfl
        have hcc := hA.const
        have hcf := hA.func
        clear hA hp
        refine Reg.out_call (f := 30) (args := #[.agg #[.int .i64 k], .int .i64 F.seg, .int .i64 j]) (w0 := w) ?_ ?_
        · go_simp
        refine (hSl.out w).mono ?_
        rintro e w' ⟨rfl, hb'⟩
        exact ⟨_, rfl, rfl, hb', Reg.Keeps.trans hI hb'⟩
      intro act wz hI hF
      have g17 : act.eval (.tmp 17) = .agg #[.int .i64 k] := hF.val 0 _ 17 rfl (by kernel_rfl) rfl
      have g18 : act.eval (.tmp 18) = .pointer (some ⟨fb, 0, none⟩) := hF.val 1 _ 18 rfl (by kernel_rfl) rfl
      have g19 : act.eval (.tmp 19) = .pointer (some ⟨fb, 0, none⟩) := hF.val 2 _ 19 rfl (by kernel_rfl) rfl
      have g20 : act.eval (.tmp 20) = .pointer (some ⟨fb, 8, none⟩) := hF.val 3 _ 20 rfl (by kernel_rfl) rfl
      have g21 : act.eval (.tmp 21) = .int .i64 F.seg := hF.val 4 _ 21 rfl (by kernel_rfl) rfl
      have g22 : act.eval (.tmp 22) = .pointer (some ⟨fb, 0, none⟩) := hF.val 5 _ 22 rfl (by kernel_rfl) rfl
      have g23 : act.eval (.tmp 23) = .pointer (some ⟨fb, 0, none⟩) := hF.val 6 _ 23 rfl (by kernel_rfl) rfl
      have g24 : act.eval (.tmp 24) = .pointer (some ⟨fb, 0, none⟩) := hF.val 7 _ 24 rfl (by kernel_rfl) rfl
      have g25 : act.eval (.tmp 25) = .pointer (some ⟨fb, 3, none⟩) := hF.val 8 _ 25 rfl (by kernel_rfl) rfl
      have g26 : act.eval (.tmp 26) = .pointer (some ⟨fb, 3, none⟩) := hF.val 9 _ 26 rfl (by kernel_rfl) rfl
      have g27 : act.eval (.tmp 27) = .int .i64 F.d0 := hF.val 10 _ 27 rfl (by kernel_rfl) rfl
      have g28 : act.eval (.tmp 28) = .pointer (some ⟨nb, 0, none⟩) := hF.val 11 _ 28 rfl (by kernel_rfl) rfl
      have g29 : act.eval (.tmp 29) = .int .i64 k := hF.val 12 _ 29 rfl (by kernel_rfl) rfl
      have g30 : act.eval (.tmp 30) = .int .i64 u := hF.val 13 _ 30 rfl (by kernel_rfl) rfl
      have g31 : act.eval (.tmp 31) = .pointer (some ⟨fb, 0, none⟩) := hF.val 14 _ 31 rfl (by kernel_rfl) rfl
      have g32 : act.eval (.tmp 32) = .pointer (some ⟨fb, 0, none⟩) := hF.val 15 _ 32 rfl (by kernel_rfl) rfl
      have g33 : act.eval (.tmp 33) = .pointer (some ⟨fb, 7, none⟩) := hF.val 16 _ 33 rfl (by kernel_rfl) rfl
      have g34 : act.eval (.tmp 34) = .int .i64 F.seen := hF.val 17 _ 34 rfl (by kernel_rfl) rfl
      have g35 : act.eval (.tmp 35) = .int .i64 (u + F.seen) := hF.val 18 _ 35 rfl (by kernel_rfl) rfl
      have g36 : act.eval (.tmp 36) = .pointer (some ⟨nb, 0, none⟩) := hF.val 19 _ 36 rfl (by kernel_rfl) rfl
      have g37 : act.eval (.tmp 37) = .int .i64 k := hF.val 20 _ 37 rfl (by kernel_rfl) rfl
      have g38 : act.eval (.tmp 38) = .int .i64 j := hF.val 21 _ 38 rfl (by kernel_rfl) rfl
      have g39 : act.eval (.tmp 39) = .int .i64 z := hF.val 22 _ 39 rfl (by kernel_rfl) rfl
      have hact := hF.actHead [17, 18, 19, 20, 21, 22, 23, 24, 25, 26, 27, 28, 29, 30, 31, 32, 33, 34, 35, 36, 37, 38, 39] (by kernel_rfl)
      clear hF
      simp only [List.foldl_cons, List.foldl_nil] at hact
      rw [g17, g18, g19, g20, g21, g22, g23, g24, g25, g26, g27, g28, g29, g30, g31, g32, g33, g34, g35, g36, g37, g38, g39] at hact
      clear g17 g18 g19 g20 g21 g22 g23 g24 g25 g26 g27 g28 g29 g30 g31 g32 g33 g34 g35 g36 g37 g38 g39
      simp only [List.setIfInBounds_toArray, List.set_cons_succ, List.set_cons_zero] at hact
      subst hact
      simp only [List.drop_succ_cons, List.drop_zero]
      have HI := hidq (HB.out.trans (Below.mono hI HB.out.size))
      clear hI
      go_wp2_with fail
      go_ret
      exact ⟨rfl, HI.out⟩
end Go.Proofs.Ytclcmabohpoaiaa

namespace Go.Proofs.Ytclcmabohpoaiaa.Reg
open Go Go.RowKit

/-- How many of these have come up. -/
def cnt (hs : List Nat) (L : Array Bool) : Nat := hs.countP (fun j => L.getD j false)
theorem cnt_light {hs : List Nat} (L : Array Bool) (i : Nat) (h : hs.contains i = false) : cnt hs (L.setIfInBounds i true) = cnt hs L := by
  unfold cnt
  refine List.countP_congr (fun j hj => ?_)
  have hne : i ≠ j := fun e => by subst e; rw [List.contains_iff_mem.2 hj] at h; cases h
  rw [getD_set_ne false hne]
theorem cnt_none (hs : List Nat) (n : Nat) : cnt hs (Array.replicate n false) = 0 := by
  unfold cnt
  rw [List.countP_eq_zero]
  intro j _
  rw [Array.getD_eq_getD_getElem?]
  by_cases hj : j < n
  · simp [hj]
  · simp [hj]
theorem cnt_all {hs : List Nat} {L : Array Bool} (h : ∀ j ∈ hs, L.getD j false = true) : cnt hs L = hs.length := by
  unfold cnt
  rw [List.countP_eq_length]
  exact h
theorem getD_true {L : Array Bool} {i : Nat} (h : L.getD i true = false) : L.getD i false = false := by
  rw [Array.getD_eq_getD_getElem?] at h ⊢
  cases hx : L[i]? with
  | none => rw [hx] at h; cases h
  | some b => rw [hx] at h; simpa using h
theorem cnt_heavy {hs : List Nat} {L : Array Bool} {i : Nat} (hn : hs.Nodup) (hi : i ∈ hs) (h0 : L.getD i true = false) : cnt hs (L.setIfInBounds i true) = cnt hs L + 1 := by
  have hlt : i < L.size := by
    rcases Nat.lt_or_ge i L.size with h' | h'
    · exact h'
    · rw [Array.getD_eq_getD_getElem?, Array.getElem?_eq_none h'] at h0; cases h0
  have h1 : (L.setIfInBounds i true).getD i false = true := by simp [hlt]
  have h2 := getD_true h0
  unfold cnt
  induction hs with
  | nil => cases hi
  | cons a l ih =>
    rw [List.nodup_cons] at hn
    rw [List.countP_cons, List.countP_cons]
    by_cases e : a = i
    · subst e
      rw [if_pos h1, if_neg (by rw [h2]; decide)]
      have : l.countP (fun j => (L.setIfInBounds a true).getD j false) = l.countP (fun j => L.getD j false) := by
        refine List.countP_congr (fun j hj => ?_)
        have hne : a ≠ j := fun e => by subst e; exact hn.1 hj
        rw [getD_set_ne false hne]
      rw [this]
    · have hi' : i ∈ l := by
        rcases List.mem_cons.1 hi with h | h
        · exact absurd h.symm e
        · exact h
      rw [ih hn.2 hi', getD_set_ne false (Ne.symm e)]
      omega
theorem cnt_zero {hs : List Nat} {L : Array Bool} (h : ∀ j ∈ hs, L.getD j false = false) : cnt hs L = 0 := by
  unfold cnt
  rw [List.countP_eq_zero]
  intro j hj
  rw [h j hj]; decide

theorem cnt_zero1 {a : Nat} {L : Array Bool} (h : L.getD a false = false) : cnt [a] L = 0 := by simp only [cnt, List.countP_cons, List.countP_nil, h]; decide
theorem cnt_zero2 {a b : Nat} {L : Array Bool} (h : L.getD a false = false) (h2 : L.getD b false = false) : cnt [a, b] L = 0 := by simp only [cnt, List.countP_cons, List.countP_nil, h, h2]; decide
theorem cnt_one2 {a b : Nat} {L : Array Bool} (h : L.getD a false = true) (h2 : L.getD b false = false) : cnt [a, b] L = 1 := by simp only [cnt, List.countP_cons, List.countP_nil, h, h2]; decide
/-- What each step leaves. -/
def PPres (S : Nat → Prop) (x : Nat) (w : World) (x' : Nat) (w' : World) : Prop := x ≤ x' ∧ (x' = x → Below w.heap.size w w') ∧ But S w w'
theorem PPres.light {S : Nat → Prop} {x : Nat} {w w' : World} (h : Below w.heap.size w w') : PPres S x w x w' := ⟨Nat.le_refl _, fun _ => h, But.of_below h⟩
theorem PPres.refl (S : Nat → Prop) (x : Nat) (w : World) : PPres S x w x w := PPres.light (Below.refl _ _)
theorem PPres.heavy {S : Nat → Prop} {x : Nat} {w w' : World} (h : But S w w') : PPres S x w (x + 1) w' := ⟨Nat.le_succ _, fun e => by omega, h⟩
/-- A property that only what is turned next may break. -/
def At1 (p : Nat) (F : World → Prop) (x : Nat) (w : World) : Prop := p ≤ x ∧ (x = p → F w)
theorem At1.kept {S : Nat → Prop} {p : Nat} {F : World → Prop} (hF : ∀ w w', Below w.heap.size w w' → F w → F w') {x x' : Nat} {w w' : World} (hp : PPres S x w x' w') (h : At1 p F x w) : At1 p F x' w' :=
  ⟨Nat.le_trans h.1 hp.1, fun e => by
    have hx : x' = x := by have := h.1; have := hp.1; omega
    exact hF _ _ (hp.2.1 hx) (h.2 (by omega))⟩
/-- What holds from step to step. -/
def PInv (hs : List Nat) (S : Nat → Prop) (W0 : World) (F : Nat → World → Prop) (x : Nat) (L : Array Bool) (w : World) : Prop :=
  x = cnt hs L ∧ But S W0 w ∧ F x w
theorem PInv.light {hs : List Nat} {S : Nat → Prop} {W0 : World} {F : Nat → World → Prop} (hF : ∀ x w w', Below w.heap.size w w' → F x w → F x w') {x : Nat} {L : Array Bool} {w w' : World} (h : PInv hs S W0 F x L w) (i : Nat) (hi : hs.contains i = false) (hb : Below w.heap.size w w') :
    PInv hs S W0 F x (L.setIfInBounds i true) w' := ⟨by rw [cnt_light L i hi]; exact h.1, h.2.1.trans (But.of_below hb), hF _ _ _ hb h.2.2⟩
theorem PInv.heavy {hs : List Nat} {S : Nat → Prop} {W0 : World} {F : Nat → World → Prop} {x : Nat} {L : Array Bool} {w w' : World} (h : PInv hs S W0 F x L w) (i : Nat) (hn : hs.Nodup) (hi : i ∈ hs) (h0 : L.getD i true = false) (hb : But S w w') (hf : F (x + 1) w') :
    PInv hs S W0 F (x + 1) (L.setIfInBounds i true) w' := ⟨by rw [cnt_heavy hn hi h0, h.1], h.2.1.trans hb, hf⟩
theorem PInv.start {hs : List Nat} {S : Nat → Prop} {w : World} {F : Nat → World → Prop} (n : Nat) (hf : F 0 w.drew) : PInv hs S w F 0 (Array.replicate n false) w.drew :=
  ⟨(cnt_none hs n).symm, (But.refl S w).drew, hf⟩
theorem PInv.done {hs : List Nat} {S : Nat → Prop} {W0 : World} {F : Nat → World → Prop} {x : Nat} {L : Array Bool} {w : World} (h : PInv hs S W0 F x L w) (hl : ∀ j ∈ hs, L.getD j false = true) : x = hs.length ∧ But S W0 w ∧ F hs.length w := by
  have := cnt_all hl
  refine ⟨h.1.trans this, h.2.1, ?_⟩
  have h2 := h.2.2
  rw [h.1, this] at h2
  exact h2
theorem out_skipP {P : Program} {K : Value → World → Prop} {ev : Operand → Value} {o : Oper} {w w' : World} (hrun : (execOp ev o).run P w = .ok .skip w') (hk : K undef w') : Outcome P K ((execOp ev o).run P w) := by
  rw [hrun]; exact hk
/-- What is not listed keeps what waits for it from being listed. -/
theorem not_listed {ops : Array Oper} {a0 : Act} {R : Nat → Value → World → Prop} {L : Array Bool} {ev : Operand → Value} {w : World} (h : At ops a0 R L ev w) (i j : Nat) (oj : Oper) (hj : ops[j]? = some oj) (e : Edge) (he : e ∈ oj.after) (hb : Region.binds .any e = true) (hi : L.getD i true = false) (hei : e.on = i := by rfl) : L.getD j false = false := by
  cases hL : L.getD j false with
  | false => rfl
  | true =>
    have := h.closed j oj hj hL e he hb
    rw [hei, getD_true hi] at this
    cases this
/-- A guarded operation, whichever way its guard is. -/
theorem GStepAt.either {γ : Type} {P : Program} {ops : Array Oper} {a0 : Act} {R : Nat → Value → γ → World → Prop} {Pres : γ → World → γ → World → Prop} {Inv : γ → Array Bool → World → Prop} {i g : Nat} {want : Bool} {o : Oper} (hg : o.guard = some (g, want))
    (h : ∀ (x : γ) (L : Array Bool) (ev : Operand → Value) (w : World), Inv x L w → L.getD i true = false → (∀ e ∈ o.after, Region.binds .any e = true → L.getD e.on false = true) → At ops a0 (fun j v w => R j v x w) L ev w →
      ∃ og t b, ops[g]? = some og ∧ og.dst = some t ∧ ev (.tmp t) = .bool b ∧
        if b = want then Outcome P (fun v w' => ∃ x', R i v x' w' ∧ Pres x w x' w' ∧ Inv x' (L.setIfInBounds i true) w') ((execOp ev o).run P w)
        else R i undef x w ∧ Inv x (L.setIfInBounds i true) w) : GStepAt P ops a0 R Pres Inv i o := by
  intro x L ev w hI hk hp hA
  rw [hg]; exact h x L ev w hI hk hp hA
end Go.Proofs.Ytclcmabohpoaiaa.Reg

namespace Go.Proofs.Ytclcmabohpoaiaa
open Go.RowKit Go.Sort

def kbegin0R (b fb lo : Nat) (e0 : Int) (M : Mem) : List (Value → Nat → World → Prop) :=
  [fun v _ _ => v = .pointer (some ⟨fb, 0, none⟩),
   fun v _ _ => v = .pointer (some ⟨fb, 0, none⟩),
   fun v _ _ => v = .int .i64 e0,
   fun v _ _ => v = .pointer (some ⟨b, 0, none⟩),
   fun v _ _ => v = .int .i64 e0,
   fun v _ w => ∃ a c, v = .agg #[.int .u64 (M.look e0).ver, .int .i64 (M.look e0).n, .slice a (M.look e0).L.length c] ∧ SlAt 2 w a c (M.look e0).L.length (flatI (M.look e0).L) ∧ (∀ j, inB a j → lo ≤ j ∧ j ≠ fb),
   fun v _ _ => v = .pointer (some ⟨fb, 0, none⟩),
   fun v _ _ => v = .pointer (some ⟨fb, 6, none⟩),
   fun _ _ _ => True,
   fun v _ _ => v = .pointer (some ⟨fb, 0, none⟩),
   fun v _ _ => v = .pointer (some ⟨fb, 11, none⟩),
   fun v _ _ => v = .pointer (some ⟨fb, 11, none⟩),
   fun _ _ _ => True]
theorem kbegin0R_kept (b fb lo : Nat) (e0 : Int) (M : Mem) : Reg.GAllKept (Reg.PPres (fun j => j = fb)) (kbegin0R b fb lo e0 M) :=
  ⟨(fun _ _ _ _ _ _ h => h), (fun _ _ _ _ _ _ h => h), (fun _ _ _ _ _ _ h => h), (fun _ _ _ _ _ _ h => h), (fun _ _ _ _ _ _ h => h), (fun v x w x' w' hp h => by obtain ⟨a, c, h1, h2, h3⟩ := h; exact ⟨a, c, h1, h2.but hp.2.2 (fun j hj => (h3 j hj).2), h3⟩), (fun _ _ _ _ _ _ h => h), (fun _ _ _ _ _ _ h => h), (fun _ _ _ _ _ _ _ => trivial), (fun _ _ _ _ _ _ h => h), (fun _ _ _ _ _ _ h => h), (fun _ _ _ _ _ _ h => h), (fun _ _ _ _ _ _ _ => trivial), trivial⟩

set_option maxRecDepth 20000 in
set_option maxHeartbeats 4000000 in
theorem kbegin_any (e0 : Int) (W1 : World) (b fb : Nat) (O P : Nat → Prop) (M : Mem) (F : Fr) (h : MemAt W1 b O M) (hf : FrAt W1 fb P F) (hd : ∀ k, O k → ¬ P k) :
    Calls Try.prog 117 #[.pointer (some ⟨b, 0, none⟩), .pointer (some ⟨fb, 0, none⟩), .int .i64 e0] W1 (RdEnd b fb O P M (kBegin M F e0) W1) := by
  obtain ⟨a0, k0, a1, k1, hB, hS0, hS1, hi0, hi1⟩ := hf.box
  have hfl := hB.lt
  have hO : ¬ O fb := fun e => hd _ e hf.ob
  have HH := hidq (And.intro h (And.intro hf hd))
  have HB := hidq (And.intro hB (And.intro hS0 (And.intro hS1 (And.intro hi0 hi1))))
  obtain ⟨F2, hF2⟩ : ∃ F2, kBegin M F e0 = F2 := ⟨_, rfl⟩
  rw [hF2]
  have HF2 := hidq hF2
  clear hF2
  go_enter Try.func117, Try.ntmps117
  have hR := hidq (fun W (hW : But (fun j => j = fb) W1 W) => read5_any b O M e0 W (h.but hW (fun k hk e => hO (e ▸ hk))))
  obtain ⟨lo, hlo⟩ : ∃ lo, W1.heap.size = lo := ⟨_, rfl⟩
  have HLOW := hidq hlo
  clear h hf hd hB hS0 hS1 hi0 hi1
  have HF : ∀ x w w', Below w.heap.size w w' → (fun x w => (x = 0 → BoxAt w fb (F.l a0 k0 a1 k1)) ∧ (x = 1 → BoxAt w fb ((F.l a0 k0 a1 k1).set 6 (.int .i64 e0))) ∧ (x = 2 → ∃ a c, BoxAt w fb (((((F.l a0 k0 a1 k1).set 6 (.int .i64 e0)).set 11 (.int .u64 (M.look e0).ver)).set 12 (.int .i64 (M.look e0).n)).set 13 (.slice a (M.look e0).L.length c)) ∧ SlAt 2 w a c (M.look e0).L.length (flatI (M.look e0).L) ∧ (∀ j, inB a j → lo ≤ j ∧ j ≠ fb))) x w → (fun x w => (x = 0 → BoxAt w fb (F.l a0 k0 a1 k1)) ∧ (x = 1 → BoxAt w fb ((F.l a0 k0 a1 k1).set 6 (.int .i64 e0))) ∧ (x = 2 → ∃ a c, BoxAt w fb (((((F.l a0 k0 a1 k1).set 6 (.int .i64 e0)).set 11 (.int .u64 (M.look e0).ver)).set 12 (.int .i64 (M.look e0).n)).set 13 (.slice a (M.look e0).L.length c)) ∧ SlAt 2 w a c (M.look e0).L.length (flatI (M.look e0).L) ∧ (∀ j, inB a j → lo ≤ j ∧ j ≠ fb))) x w' := fun x w w' hb hh => ⟨fun e => (hh.1 e).below hb, fun e => (hh.2.1 e).below hb, fun e => by obtain ⟨a, c, q1, q2, q3⟩ := hh.2.2 e; exact ⟨a, c, q1.below hb, q2.below hb, q3⟩⟩
  go_wp2_with fail
  refine Reg.wp_region_ghost (Reg.gofList (kbegin0R b fb lo e0 M)) (Reg.PPres (fun j => j = fb)) (Reg.PInv [8, 12] (fun j => j = fb) W1 (fun x w => (x = 0 → BoxAt w fb (F.l a0 k0 a1 k1)) ∧ (x = 1 → BoxAt w fb ((F.l a0 k0 a1 k1).set 6 (.int .i64 e0))) ∧ (x = 2 → ∃ a c, BoxAt w fb (((((F.l a0 k0 a1 k1).set 6 (.int .i64 e0)).set 11 (.int .u64 (M.look e0).ver)).set 12 (.int .i64 (M.look e0).n)).set 13 (.slice a (M.look e0).L.length c)) ∧ SlAt 2 w a c (M.look e0).L.length (flatI (M.look e0).L) ∧ (∀ j, inB a j → lo ≤ j ∧ j ≠ fb)))) 0 (by kernel_rfl) (by kernel_rfl) (Reg.GAllKept.at _ (kbegin0R_kept b fb lo e0 M)) (Reg.PInv.start 13 ⟨fun _ => HB.out.1.drew, (fun e => by cases e), (fun e => by cases e)⟩) ⟨?_, ?_, ?_, ?_, ?_, ?_, ?_, ?_, ?_, ?_, ?_, ?_, ?_, trivial⟩ ?_
  · refine Reg.GStepAt.plain (i := 0) rfl ?_
    intro x L ev w hI hk hp hA
    have e1 : ev (.tmp 1) = .pointer (some ⟨fb, 0, none⟩) := hA.oldNone 1 (by kernel_rfl)
    have hcc := hA.const
    clear hA hp
    refine Reg.out_value (v := .pointer (some ⟨fb, 0, none⟩)) ?_ ⟨x, rfl, Reg.PPres.refl _ _ _, Reg.PInv.light HF hI 0 (by decide) (Below.refl _ _)⟩
    go_simp
  · refine Reg.GStepAt.plain (i := 1) rfl ?_
    intro x L ev w hI hk hp hA
    have e1 : ev (.tmp 1) = .pointer (some ⟨fb, 0, none⟩) := hA.oldNone 1 (by kernel_rfl)
    have hcc := hA.const
    clear hA hp
    refine Reg.out_value (v := .pointer (some ⟨fb, 0, none⟩)) ?_ ⟨x, rfl, Reg.PPres.refl _ _ _, Reg.PInv.light HF hI 1 (by decide) (Below.refl _ _)⟩
    go_simp
  · refine Reg.GStepAt.plain (i := 2) rfl ?_
    intro x L ev w hI hk hp hA
    have e2 : ev (.tmp 2) = .int .i64 e0 := hA.oldNone 2 (by kernel_rfl)
    have hcc := hA.const
    clear hA hp
    refine Reg.out_value (v := .int .i64 e0) ?_ ⟨x, rfl, Reg.PPres.refl _ _ _, Reg.PInv.light HF hI 2 (by decide) (Below.refl _ _)⟩
    go_simp
  · refine Reg.GStepAt.plain (i := 3) rfl ?_
    intro x L ev w hI hk hp hA
    have e0 : ev (.tmp 0) = .pointer (some ⟨b, 0, none⟩) := hA.oldNone 0 (by kernel_rfl)
    have hcc := hA.const
    clear hA hp
    refine Reg.out_value (v := .pointer (some ⟨b, 0, none⟩)) ?_ ⟨x, rfl, Reg.PPres.refl _ _ _, Reg.PInv.light HF hI 3 (by decide) (Below.refl _ _)⟩
    go_simp
  · refine Reg.GStepAt.plain (i := 4) rfl ?_
    intro x L ev w hI hk hp hA
    have e2 : ev (.tmp 2) = .int .i64 e0 := hA.oldNone 2 (by kernel_rfl)
    have hcc := hA.const
    clear hA hp
    refine Reg.out_value (v := .int .i64 e0) ?_ ⟨x, rfl, Reg.PPres.refl _ _ _, Reg.PInv.light HF hI 4 (by decide) (Below.refl _ _)⟩
    go_simp
  · refine Reg.GStepAt.plain (i := 5) rfl ?_
    intro x L ev w hI hk hp hA
    have e9 : ev (.tmp 9) = .pointer (some ⟨b, 0, none⟩) := hA.val 3 _ 9 rfl (hp ⟨3, .data⟩ (by simp) rfl) rfl
    have e10 : ev (.tmp 10) = .int .i64 e0 := hA.val 4 _ 10 rfl (hp ⟨4, .data⟩ (by simp) rfl) rfl
    have hcc := hA.const
    have hcf := hA.func
    clear hA hp
    refine Reg.out_call (f := 60) (args := #[.pointer (some ⟨b, 0, none⟩), .int .i64 e0]) (w0 := w) ?_ ?_
    · go_simp
    refine (hR.out w hI.2.1).mono ?_
    rintro e w' ⟨a', c', rfl, hs', hn', hb'⟩
    exact ⟨_, rfl, x, ⟨a', c', rfl, hs', fun j hj => by have := hn' j hj; have h1 := hI.2.1.size; omega⟩, Reg.PPres.light hb', Reg.PInv.light HF hI 5 (by decide) hb'⟩
  · refine Reg.GStepAt.plain (i := 6) rfl ?_
    intro x L ev w hI hk hp hA
    have e6 : ev (.tmp 6) = .pointer (some ⟨fb, 0, none⟩) := hA.val 0 _ 6 rfl (hp ⟨0, .data⟩ (by simp) rfl) rfl
    have hcc := hA.const
    clear hA hp
    refine Reg.out_value (v := .pointer (some ⟨fb, 0, none⟩)) ?_ ⟨x, rfl, Reg.PPres.refl _ _ _, Reg.PInv.light HF hI 6 (by decide) (Below.refl _ _)⟩
    go_simp
  · refine Reg.GStepAt.plain (i := 7) rfl ?_
    intro x L ev w hI hk hp hA
    have e12 : ev (.tmp 12) = .pointer (some ⟨fb, 0, none⟩) := hA.val 6 _ 12 rfl (hp ⟨6, .data⟩ (by simp) rfl) rfl
    have hcc := hA.const
    clear hA hp
    refine Reg.out_value (v := .pointer (some ⟨fb, 6, none⟩)) ?_ ⟨x, rfl, Reg.PPres.refl _ _ _, Reg.PInv.light HF hI 7 (by decide) (Below.refl _ _)⟩
    go_simp
  · refine Reg.GStepAt.plain (i := 8) rfl ?_
    intro x L ev w hI hk hp hA
    have e13 : ev (.tmp 13) = .pointer (some ⟨fb, 6, none⟩) := hA.val 7 _ 13 rfl (hp ⟨7, .data⟩ (by simp) rfl) rfl
    have e8 : ev (.tmp 8) = .int .i64 e0 := hA.val 2 _ 8 rfl (hp ⟨2, .data⟩ (by simp) rfl) rfl
    have hcc := hA.const
    have NL := Reg.not_listed hA 8 12 _ rfl ⟨8, .chain⟩ (by simp) rfl hk
    clear hA hp
    have hx : x = 0 := hI.1.trans (Reg.cnt_zero2 (Reg.getD_true hk) NL)
    have hT := hI.2.2.1 hx
    obtain ⟨c6, y6⟩ := hT.get 6 _ rfl
    have hset := hT.set 6 (.int .i64 e0)
    have hbS : But (fun j => j = fb) w (w.setCell ⟨fb, 6, none⟩ (.int .i64 e0)) := (But.refl (fun j => j = fb) w).set1 fb 6 rfl _
    refine Reg.out_skipP (w' := w.setCell ⟨fb, 6, none⟩ (.int .i64 e0)) ?_ ⟨x + 1, trivial, Reg.PPres.heavy hbS, Reg.PInv.heavy hI 8 (by decide) (by simp) hk hbS ⟨fun e => by omega, fun e => hset, fun e => by omega⟩⟩
    clear hI hset hT hbS
    go_simp
  · refine Reg.GStepAt.plain (i := 9) rfl ?_
    intro x L ev w hI hk hp hA
    have e7 : ev (.tmp 7) = .pointer (some ⟨fb, 0, none⟩) := hA.val 1 _ 7 rfl (hp ⟨1, .data⟩ (by simp) rfl) rfl
    have hcc := hA.const
    clear hA hp
    refine Reg.out_value (v := .pointer (some ⟨fb, 0, none⟩)) ?_ ⟨x, rfl, Reg.PPres.refl _ _ _, Reg.PInv.light HF hI 9 (by decide) (Below.refl _ _)⟩
    go_simp
  · refine Reg.GStepAt.plain (i := 10) rfl ?_
    intro x L ev w hI hk hp hA
    have e14 : ev (.tmp 14) = .pointer (some ⟨fb, 0, none⟩) := hA.val 9 _ 14 rfl (hp ⟨9, .data⟩ (by simp) rfl) rfl
    have hcc := hA.const
    clear hA hp
    refine Reg.out_value (v := .pointer (some ⟨fb, 11, none⟩)) ?_ ⟨x, rfl, Reg.PPres.refl _ _ _, Reg.PInv.light HF hI 10 (by decide) (Below.refl _ _)⟩
    go_simp
  · refine Reg.GStepAt.plain (i := 11) rfl ?_
    intro x L ev w hI hk hp hA
    have e15 : ev (.tmp 15) = .pointer (some ⟨fb, 11, none⟩) := hA.val 10 _ 15 rfl (hp ⟨10, .data⟩ (by simp) rfl) rfl
    have hcc := hA.const
    clear hA hp
    refine Reg.out_value (v := .pointer (some ⟨fb, 11, none⟩)) ?_ ⟨x, rfl, Reg.PPres.refl _ _ _, Reg.PInv.light HF hI 11 (by decide) (Below.refl _ _)⟩
    go_simp
  · refine Reg.GStepAt.plain (i := 12) rfl ?_
    intro x L ev w hI hk hp hA
    have e16 : ev (.tmp 16) = .pointer (some ⟨fb, 11, none⟩) := hA.val 11 _ 16 rfl (hp ⟨11, .data⟩ (by simp) rfl) rfl
    have e11 : (fun v _ w => ∃ a c, v = .agg #[.int .u64 (M.look e0).ver, .int .i64 (M.look e0).n, .slice a (M.look e0).L.length c] ∧ SlAt 2 w a c (M.look e0).L.length (flatI (M.look e0).L) ∧ (∀ j, inB a j → lo ≤ j ∧ j ≠ fb)) (ev (.tmp 11)) x w := hA.val 5 _ 11 rfl (hp ⟨5, .data⟩ (by simp) rfl) rfl
    have hcc := hA.const
    have L8 : L.getD 8 false = true := hp ⟨8, .chain⟩ (by simp) rfl
    clear hA hp
    have hx : x = 1 := hI.1.trans (Reg.cnt_one2 L8 (Reg.getD_true hk))
    have hT := hI.2.2.2.1 hx
    obtain ⟨a, c, e11, hsl, hin⟩ := e11
    obtain ⟨c11, y11⟩ := hT.get 11 _ rfl
    obtain ⟨c12, y12⟩ := hT.get 12 _ rfl
    obtain ⟨c13, y13⟩ := hT.get 13 _ rfl
    have hset := setBox_box [(11, .int .u64 (M.look e0).ver), (12, .int .i64 (M.look e0).n), (13, .slice a (M.look e0).L.length c)] hT
    have hbS := setBox_but fb [(11, .int .u64 (M.look e0).ver), (12, .int .i64 (M.look e0).n), (13, .slice a (M.look e0).L.length c)] w
    refine Reg.out_skipP (w' := setBox w fb [(11, .int .u64 (M.look e0).ver), (12, .int .i64 (M.look e0).n), (13, .slice a (M.look e0).L.length c)]) ?_ ⟨x + 1, trivial, Reg.PPres.heavy hbS, Reg.PInv.heavy hI 12 (by decide) (by simp) hk hbS ⟨fun e => by omega, fun e => by omega, fun e => ⟨a, c, hset, hsl.but hbS (fun j hj => (hin j hj).2), fun j hj => (hin j hj)⟩⟩⟩
    clear hI hset hT hbS hsl hin
    simp only [setBox]
    go_simp
  intro gx L act wz hall hI hF
  have g6 : act.eval (.tmp 6) = .pointer (some ⟨fb, 0, none⟩) := hF.val 0 _ 6 rfl (hall 0 (by simp)) rfl
  have g7 : act.eval (.tmp 7) = .pointer (some ⟨fb, 0, none⟩) := hF.val 1 _ 7 rfl (hall 1 (by simp)) rfl
  have g8 : act.eval (.tmp 8) = .int .i64 e0 := hF.val 2 _ 8 rfl (hall 2 (by simp)) rfl
  have g9 : act.eval (.tmp 9) = .pointer (some ⟨b, 0, none⟩) := hF.val 3 _ 9 rfl (hall 3 (by simp)) rfl
  have g10 : act.eval (.tmp 10) = .int .i64 e0 := hF.val 4 _ 10 rfl (hall 4 (by simp)) rfl
  have g11 : (fun v _ w => ∃ a c, v = .agg #[.int .u64 (M.look e0).ver, .int .i64 (M.look e0).n, .slice a (M.look e0).L.length c] ∧ SlAt 2 w a c (M.look e0).L.length (flatI (M.look e0).L) ∧ (∀ j, inB a j → lo ≤ j ∧ j ≠ fb)) (act.eval (.tmp 11)) gx wz := hF.val 5 _ 11 rfl (hall 5 (by simp)) rfl
  have g12 : act.eval (.tmp 12) = .pointer (some ⟨fb, 0, none⟩) := hF.val 6 _ 12 rfl (hall 6 (by simp)) rfl
  have g13 : act.eval (.tmp 13) = .pointer (some ⟨fb, 6, none⟩) := hF.val 7 _ 13 rfl (hall 7 (by simp)) rfl
  have g14 : act.eval (.tmp 14) = .pointer (some ⟨fb, 0, none⟩) := hF.val 9 _ 14 rfl (hall 9 (by simp)) rfl
  have g15 : act.eval (.tmp 15) = .pointer (some ⟨fb, 11, none⟩) := hF.val 10 _ 15 rfl (hall 10 (by simp)) rfl
  have g16 : act.eval (.tmp 16) = .pointer (some ⟨fb, 11, none⟩) := hF.val 11 _ 16 rfl (hall 11 (by simp)) rfl
  have hact := hF.act [6, 7, 8, 9, 10, 11, 12, 13, 14, 15, 16] (by kernel_rfl)
  obtain ⟨hxz, hBz, hFz⟩ := Reg.PInv.done hI (fun j hj => hall j (by simp at hj ⊢; omega))
  clear hF hall
  simp only [List.foldl_cons, List.foldl_nil] at hact
  rw [g6, g7, g8, g9, g10, g12, g13, g14, g15, g16] at hact
  clear g6 g7 g8 g9 g10 g12 g13 g14 g15 g16
  generalize act.eval (.tmp 11) = u11 at hact g11
  simp only [List.setIfInBounds_toArray, List.set_cons_succ, List.set_cons_zero] at hact
  subst hact
  obtain ⟨a2, k2, hB2, hS2, hn2⟩ := hFz.2.2 rfl
  obtain ⟨HM, HFr, HD⟩ := HH.out
  obtain ⟨hB, hS0, hS1, hi0, hi1⟩ := HB.out
  have hlow := HLOW.out
  have FIN := hidq (rdEnd_of (w := W1) (P := P) (F' := kBegin M F e0) [(8, .int .i64 (M.look e0).n), (7, .int .i64 0), (10, .bool false)]
    (HM.but hBz (fun k hk e => hO (e ▸ hk))) (hBz.mono (fun k _ e => e ▸ HFr.ob)) HFr.ob hB2 rfl hO
    hS2 (fun j hj => by have := hn2 j hj; exact ⟨by omega, fun e => by have := HM.lt _ e; omega, .inr (by omega)⟩)
    (hS1.but hBz (fun j hj => (hi1 j hj).2)) (fun j hj => ⟨(hi1 j hj).2, fun e => HD _ e (hi1 j hj).1, .inl (hi1 j hj).1⟩))
  obtain ⟨q12, z12⟩ := hB2.get 12 _ rfl
  obtain ⟨q8, z8⟩ := hB2.get 8 _ rfl
  obtain ⟨q7, z7⟩ := hB2.get 7 _ rfl
  obtain ⟨q10, z10⟩ := hB2.get 10 _ rfl
  have hfz := hB2.lt
  clear hB2 HM HFr HD hB hS0 hS1 hi0 hi1 HH HB hR hS2 hn2 hlow HLOW hlo hBz hFz HF hfl hxz
  go_wp2
  go_end0
  rw [← HF2.out]
  exact FIN.out
end Go.Proofs.Ytclcmabohpoaiaa

namespace Go.Proofs.Ytclcmabohpoaiaa
open Go.RowKit Go.Sort

theorem kLook_yes {k want : Int} {M : Mem} {F : Fr} (h : (M.look (kAt k F)).n = want) : kLook k want M F = { F with empty := F.empty || decide ((M.look (kAt k F)).n = 0), c1 := M.look (kAt k F), pc := 3 } := if_pos h
theorem kLook_no {k want : Int} {M : Mem} {F : Fr} (h : ¬ (M.look (kAt k F)).n = want) : kLook k want M F = { F with empty := F.empty || decide ((M.look (kAt k F)).n = 0), seen := F.seen + 1, pc := if F.seen + 1 = k then 4 else F.pc } := if_neg h

def klook4R (fb cl k3 : Nat) (a3 : Option Addr) (cver cn : Int) : List (Value → Nat → World → Prop) :=
  [fun v _ _ => v = .pointer (some ⟨fb, 0, none⟩),
   fun v _ _ => v = .pointer (some ⟨fb, 0, none⟩),
   fun v _ _ => v = .agg #[.int .u64 cver, .int .i64 cn, .slice a3 cl k3],
   fun v _ _ => v = .pointer (some ⟨fb, 0, none⟩),
   fun v _ _ => v = .pointer (some ⟨fb, 11, none⟩),
   fun v _ _ => v = .pointer (some ⟨fb, 14, none⟩),
   fun _ _ _ => True,
   fun v _ _ => v = .pointer (some ⟨fb, 0, none⟩),
   fun v _ _ => v = .pointer (some ⟨fb, 5, none⟩),
   fun _ _ _ => True]
theorem klook4R_kept (fb cl k3 : Nat) (a3 : Option Addr) (cver cn : Int) : Reg.GAllKept (Reg.PPres (fun j => j = fb)) (klook4R fb cl k3 a3 cver cn) :=
  ⟨(fun _ _ _ _ _ _ h => h), (fun _ _ _ _ _ _ h => h), (fun _ _ _ _ _ _ h => h), (fun _ _ _ _ _ _ h => h), (fun _ _ _ _ _ _ h => h), (fun _ _ _ _ _ _ h => h), (fun _ _ _ _ _ _ _ => trivial), (fun _ _ _ _ _ _ h => h), (fun _ _ _ _ _ _ h => h), (fun _ _ _ _ _ _ _ => trivial), trivial⟩

set_option maxRecDepth 20000 in
set_option maxHeartbeats 8000000 in
theorem klook_any (k want : Int) (w : World) (b fb : Nat) (O P : Nat → Prop) (M : Mem) (F : Fr) (h : MemAt w b O M) (hf : FrAt w fb P F) (hd : ∀ k, O k → ¬ P k) (hk : 1 ≤ k ∧ k ≤ 16) (hs : 0 ≤ F.seen ∧ F.seen ≤ 100) :
    Calls Try.prog 118 #[.agg #[.int .i64 k], .pointer (some ⟨b, 0, none⟩), .pointer (some ⟨fb, 0, none⟩), .int .i64 want] w (RdEnd b fb O P M (kLook k want M F) w) := by
  obtain ⟨nb, hnb⟩ : ∃ nb, w.heap.size = nb := ⟨_, rfl⟩
  obtain ⟨W1, hW1⟩ : ∃ W1, w.alloc (.cells #[.int .i64 k] 57) = W1 := ⟨_, rfl⟩
  have hBq := BoxAt.new w [.int .i64 k] 57
  rw [show w.alloc (.cells [.int .i64 k].toArray 57) = W1 from hW1, hnb] at hBq
  have hb1 : Below w.heap.size w W1 := by rw [← hW1]; exact (Below.refl _ _).alloc (Nat.le_refl _) _
  have hf1 := hf.below hb1
  obtain ⟨a0, k0, a1, k1, hB1, hS01, hS11, hi0, hi1⟩ := hf1.box
  have hAt := hidq (kat_any k W1 fb F hk hB1.lt (hB1.get 3 _ rfl).1 (hB1.get 7 _ rfl).1 (hB1.get 8 _ rfl).1 hs)
  obtain ⟨at_, hat⟩ : ∃ x, kAt k F = x := ⟨_, rfl⟩
  rw [hat] at hAt
  have hR := hidq (fun W (hW : Below W1.heap.size W1 W) => read5_any b O M at_ W (h.below (hb1.trans (hW.mono hb1.size))))
  have q0 := (hBq.get 0 _ rfl).1
  have hql := hBq.lt
  obtain ⟨F2, hF2⟩ : ∃ F2, kLook k want M F = F2 := ⟨_, rfl⟩
  rw [hF2]
  have HH := hidq (And.intro h (And.intro hf (And.intro hd (And.intro hb1 (And.intro hBq (And.intro hnb (And.intro hat hF2)))))))
  clear h hf hd hb1 hf1 hB1 hS01 hS11 hi0 hi1 hat hF2 hBq
  go_enter Try.func118, Try.ntmps118
  go_wp2_with fail
  refine hAt.out.mono ?_
  rintro e w2 ⟨rfl, hb2⟩
  have hRR := hidq (hR.out w2 hb2)
  have HB2 := hidq hb2
  clear hb2 hAt hR q0 hql
  go_wp2_with fail
  refine hRR.out.mono ?_
  rintro e w3 ⟨a3, k3, rfl, hS3, hn3, hb3⟩
  clear hRR
  obtain ⟨cv, hcv⟩ : ∃ cv, M.look at_ = cv := ⟨_, rfl⟩
  rw [hcv] at hS3 ⊢
  obtain ⟨cver, cn, cL⟩ := cv
  dsimp only at hS3 ⊢
  obtain ⟨cl, hcl⟩ : ∃ cl, cL.length = cl := ⟨_, rfl⟩
  rw [hcl]
  obtain ⟨h, hf, hd, hb1, hBq, hnb, hat, hF2⟩ := HH.out
  have hb13 : Below W1.heap.size W1 w3 := HB2.out.trans (hb3.mono HB2.out.size)
  have hb03 : Below w.heap.size w w3 := hb1.trans (hb13.mono hb1.size)
  obtain ⟨cb, hcb⟩ : ∃ cb, w3.heap.size = cb := ⟨_, rfl⟩
  have hs3 : w2.heap.size ≤ cb := by rw [← hcb]; exact hb3.size
  have hs2 : W1.heap.size ≤ w2.heap.size := HB2.out.size
  have hs1 : W1.heap.size = nb + 1 := by rw [← hW1]; simp [hnb]
  obtain ⟨W4, hW4⟩ : ∃ W4, w3.alloc (.cells #[.int .u64 cver, .int .i64 cn, .slice a3 cl k3] 82) = W4 := ⟨_, rfl⟩
  have hBc := BoxAt.new w3 [.int .u64 cver, .int .i64 cn, .slice a3 cl k3] 82
  rw [show w3.alloc (.cells [.int .u64 cver, .int .i64 cn, .slice a3 cl k3].toArray 82) = W4 from hW4, hcb] at hBc
  have hb4 : Below w3.heap.size w3 W4 := by rw [← hW4]; exact (Below.refl _ _).alloc (Nat.le_refl _) _
  have hb04 : Below w.heap.size w W4 := hb03.trans (hb4.mono hb03.size)
  have hf4 := hf.below hb04
  have hM4 := h.below hb04
  have hQ4 := (hBq.below hb13).below hb4
  have hS4 := hS3.below hb4
  obtain ⟨a0, k0, a1, k1, hB4, hS04, hS14, hi0, hi1⟩ := hf4.box
  obtain ⟨f10, y10⟩ := hB4.get 10 _ rfl
  obtain ⟨f7, y7⟩ := hB4.get 7 _ rfl
  obtain ⟨f5, y5⟩ := hB4.get 5 _ rfl
  obtain ⟨f14, y14⟩ := hB4.get 14 _ rfl
  obtain ⟨f15, y15⟩ := hB4.get 15 _ rfl
  obtain ⟨f16, y16⟩ := hB4.get 16 _ rfl
  have b0 := (hBc.get 0 _ rfl).1
  have b1 := (hBc.get 1 _ rfl).1
  have b2 := (hBc.get 2 _ rfl).1
  have m0 := (hQ4.get 0 _ rfl).1
  have hfl := hB4.lt
  have hbl := hBc.lt
  have hql := hQ4.lt
  have hfp := hf.lt _ hf.ob
  have hne1 : ¬ fb = cb := by omega
  have hne2 : ¬ fb = nb := by omega
  have hOf : ¬ O fb := fun e => hd _ e hf.ob
  have hsn : F.seen < 9223372036854775807 := by omega
  obtain ⟨z, hz0⟩ : ∃ z : Bool, decide (cn = 0) = z := ⟨_, rfl⟩
  have hz1 : (cn == 0) = z := by rw [← hz0]; rfl
  cases hem : F.empty
  · rw [hem] at f10
    obtain ⟨e2, he2⟩ : ∃ e2 : Bool, e2 = z := ⟨_, rfl⟩
    obtain ⟨W5, hW5⟩ : ∃ W5, W4.setCell ⟨fb, 10, none⟩ (.bool e2) = W5 := ⟨_, rfl⟩
    have hB5 := hB4.set 10 (.bool e2)
    have hb45 : But (fun j => j = fb) W4 (W4.setCell ⟨fb, 10, none⟩ (.bool e2)) := (But.refl (fun j => j = fb) W4).set1 fb 10 rfl _
    rw [hW5] at hB5 hb45
    have hBc5 := hBc.but hb45 (fun e => hne1 e.symm)
    have hQ5 := hQ4.but hb45 (fun e => hne2 e.symm)
    have hs5 : W5.heap.size = W4.heap.size := by rw [← hW5, World.size_setCell]
    have HB5 := hidq (And.intro hB5 (And.intro (hM4.but hb45 (fun k hk e => hOf (e ▸ hk))) (And.intro (hS4.but hb45 (fun j hj e => by have := hn3 j hj; omega)) (And.intro (hS04.but hb45 (fun j hj => (hi0 j hj).2)) (And.intro (hS14.but hb45 (fun j hj => (hi1 j hj).2)) (And.intro hi0 (And.intro hi1 (And.intro ((But.of_below hb04).then hb45 (fun j _ e => (e ▸ hf.ob : P j))) (And.intro hf.ob (And.intro hd (And.intro hf.lt h.lt)))))))))))
    have FC := hidq (fun W (hW : But (fun j => j = fb) W5 W) => (show W.cell? ⟨cb, 0, none⟩ = some (.int .u64 cver) ∧ W.cell? ⟨cb, 1, none⟩ = some (.int .i64 cn) ∧ W.cell? ⟨cb, 2, none⟩ = some (.slice a3 cl k3) from by
      have q := hBc5.but hW (fun e => hne1 e.symm)
      exact ⟨(q.get 0 _ rfl).1, (q.get 1 _ rfl).1, (q.get 2 _ rfl).1⟩))
    have hE2 : (F.empty || decide (cn = 0)) = e2 := by rw [he2, hem]; rw [Bool.false_or]; exact hz0
    have b15 := (hBc5.get 1 _ rfl).1
    have hbl5 := hBc5.lt
    have m05 := (hQ5.get 0 _ rfl).1
    have hql5 := hQ5.lt
    obtain ⟨g7, z7⟩ := hB5.get 7 _ rfl
    obtain ⟨g5, z5⟩ := hB5.get 5 _ rfl
    have hfl5 := hB5.lt
    by_cases hyes : cn = want
    · have hF3 : F2 = { F with empty := e2, c1 := ⟨cver, cn, cL⟩, pc := 3 } := by
        rw [← hF2, kLook_yes (by rw [hat, hcv]; exact hyes), hat, hcv, ← hE2]
      have HF3 := hidq hF3
      have hn3' := hidq (And.intro hn3 (And.intro hs1 (And.intro hs2 (And.intro hs3 (And.intro hnb hcl)))))
      subst hyes
      have t1 : (cn == cn) = true := by simp
      clear hF3 hF2 hat hcv hB5 hb45 hBc5 hQ5 hs5 hE2 h hf hd hb1 hBq hb13 hb03 hBc hb04 hf4 hM4 hQ4 hS4 hS3 hn3 hb3 hB4 hS04 hS14 hi0 hi1 HB2 HH hs1 hs2 hs3 hk hs hcl hb4
      have hW5t : W4.setCell ⟨fb, 10, none⟩ (.bool z) = W5 := by rw [← hW5, he2]
      have HW5t := hidq hW5t
      clear hW5t
      go_wp2_with fail
      rw [HW5t.out]
      clear HW5t
      clear hW5 he2 f10 y10 f7 y7 f5 y5 f14 y14 f15 y15 f16 y16 b0 b1 b2 m0 hfl hbl hql hfp hW4 hW1
      have HF : ∀ x w w', Below w.heap.size w w' → (fun x w => (x = 0 → BoxAt w fb ((F.l a0 k0 a1 k1).set 10 (.bool e2))) ∧ (x = 1 → BoxAt w fb (((((F.l a0 k0 a1 k1).set 10 (.bool e2)).set 14 (.int .u64 cver)).set 15 (.int .i64 cn)).set 16 (.slice a3 cl k3))) ∧ (x = 2 → BoxAt w fb ((((((F.l a0 k0 a1 k1).set 10 (.bool e2)).set 14 (.int .u64 cver)).set 15 (.int .i64 cn)).set 16 (.slice a3 cl k3)).set 5 (.int .i64 3)))) x w → (fun x w => (x = 0 → BoxAt w fb ((F.l a0 k0 a1 k1).set 10 (.bool e2))) ∧ (x = 1 → BoxAt w fb (((((F.l a0 k0 a1 k1).set 10 (.bool e2)).set 14 (.int .u64 cver)).set 15 (.int .i64 cn)).set 16 (.slice a3 cl k3))) ∧ (x = 2 → BoxAt w fb ((((((F.l a0 k0 a1 k1).set 10 (.bool e2)).set 14 (.int .u64 cver)).set 15 (.int .i64 cn)).set 16 (.slice a3 cl k3)).set 5 (.int .i64 3)))) x w' := fun x w w' hb hh => ⟨fun e => (hh.1 e).below hb, fun e => (hh.2.1 e).below hb, fun e => (hh.2.2 e).below hb⟩
      refine Reg.wp_region_ghost (Reg.gofList (klook4R fb cl k3 a3 cver cn)) (Reg.PPres (fun j => j = fb)) (Reg.PInv [6, 9] (fun j => j = fb) W5 (fun x w => (x = 0 → BoxAt w fb ((F.l a0 k0 a1 k1).set 10 (.bool e2))) ∧ (x = 1 → BoxAt w fb (((((F.l a0 k0 a1 k1).set 10 (.bool e2)).set 14 (.int .u64 cver)).set 15 (.int .i64 cn)).set 16 (.slice a3 cl k3))) ∧ (x = 2 → BoxAt w fb ((((((F.l a0 k0 a1 k1).set 10 (.bool e2)).set 14 (.int .u64 cver)).set 15 (.int .i64 cn)).set 16 (.slice a3 cl k3)).set 5 (.int .i64 3))))) 0 (by kernel_rfl) (by kernel_rfl) (Reg.GAllKept.at _ (klook4R_kept fb cl k3 a3 cver cn)) (Reg.PInv.start 10 ⟨fun _ => HB5.out.1.drew, (fun e => by cases e), (fun e => by cases e)⟩) ⟨?_, ?_, ?_, ?_, ?_, ?_, ?_, ?_, ?_, ?_, trivial⟩ ?_
      · refine Reg.GStepAt.plain (i := 0) rfl ?_
        intro x L ev w hI hk hp hA
        have e2 : ev (.tmp 2) = .pointer (some ⟨fb, 0, none⟩) := hA.oldNone 2 (by kernel_rfl)
        have hcc := hA.const
        clear hA hp
        refine Reg.out_value (v := .pointer (some ⟨fb, 0, none⟩)) ?_ ⟨x, rfl, Reg.PPres.refl _ _ _, Reg.PInv.light HF hI 0 (by decide) (Below.refl _ _)⟩
        go_simp
      · refine Reg.GStepAt.plain (i := 1) rfl ?_
        intro x L ev w hI hk hp hA
        have e2 : ev (.tmp 2) = .pointer (some ⟨fb, 0, none⟩) := hA.oldNone 2 (by kernel_rfl)
        have hcc := hA.const
        clear hA hp
        refine Reg.out_value (v := .pointer (some ⟨fb, 0, none⟩)) ?_ ⟨x, rfl, Reg.PPres.refl _ _ _, Reg.PInv.light HF hI 1 (by decide) (Below.refl _ _)⟩
        go_simp
      · refine Reg.GStepAt.plain (i := 2) rfl ?_
        intro x L ev w hI hk hp hA
        have e8 : ev (.tmp 8) = .pointer (some ⟨cb, 0, none⟩) := hA.oldNone 8 (by kernel_rfl)
        have hcc := hA.const
        clear hA hp
        have f0 := (FC.out w hI.2.1).1
        have f1 := (FC.out w hI.2.1).2.1
        have f2 := (FC.out w hI.2.1).2.2
        refine Reg.out_value (v := .agg #[.int .u64 cver, .int .i64 cn, .slice a3 cl k3]) ?_ ⟨x, rfl, Reg.PPres.refl _ _ _, Reg.PInv.light HF hI 2 (by decide) (Below.refl _ _)⟩
        go_simp
      · refine Reg.GStepAt.plain (i := 3) rfl ?_
        intro x L ev w hI hk hp hA
        have e32 : ev (.tmp 32) = .pointer (some ⟨fb, 0, none⟩) := hA.val 0 _ 32 rfl (hp ⟨0, .data⟩ (by simp) rfl) rfl
        have hcc := hA.const
        clear hA hp
        refine Reg.out_value (v := .pointer (some ⟨fb, 0, none⟩)) ?_ ⟨x, rfl, Reg.PPres.refl _ _ _, Reg.PInv.light HF hI 3 (by decide) (Below.refl _ _)⟩
        go_simp
      · refine Reg.GStepAt.plain (i := 4) rfl ?_
        intro x L ev w hI hk hp hA
        have e35 : ev (.tmp 35) = .pointer (some ⟨fb, 0, none⟩) := hA.val 3 _ 35 rfl (hp ⟨3, .data⟩ (by simp) rfl) rfl
        have hcc := hA.const
        clear hA hp
        refine Reg.out_value (v := .pointer (some ⟨fb, 11, none⟩)) ?_ ⟨x, rfl, Reg.PPres.refl _ _ _, Reg.PInv.light HF hI 4 (by decide) (Below.refl _ _)⟩
        go_simp
      · refine Reg.GStepAt.plain (i := 5) rfl ?_
        intro x L ev w hI hk hp hA
        have e36 : ev (.tmp 36) = .pointer (some ⟨fb, 11, none⟩) := hA.val 4 _ 36 rfl (hp ⟨4, .data⟩ (by simp) rfl) rfl
        have hcc := hA.const
        clear hA hp
        refine Reg.out_value (v := .pointer (some ⟨fb, 14, none⟩)) ?_ ⟨x, rfl, Reg.PPres.refl _ _ _, Reg.PInv.light HF hI 5 (by decide) (Below.refl _ _)⟩
        go_simp
      · refine Reg.GStepAt.plain (i := 6) rfl ?_
        intro x L ev w hI hk hp hA
        have e37 : ev (.tmp 37) = .pointer (some ⟨fb, 14, none⟩) := hA.val 5 _ 37 rfl (hp ⟨5, .data⟩ (by simp) rfl) rfl
        have e34 : ev (.tmp 34) = .agg #[.int .u64 cver, .int .i64 cn, .slice a3 cl k3] := hA.val 2 _ 34 rfl (hp ⟨2, .data⟩ (by simp) rfl) rfl
        have hcc := hA.const
        have NL := Reg.not_listed hA 6 9 _ rfl ⟨6, .chain⟩ (by simp) rfl hk
        clear hA hp
        have hx : x = 0 := hI.1.trans (Reg.cnt_zero2 (Reg.getD_true hk) NL)
        have hT := hI.2.2.1 hx
        obtain ⟨c14, y14⟩ := hT.get 14 _ rfl
        obtain ⟨c15, y15⟩ := hT.get 15 _ rfl
        obtain ⟨c16, y16⟩ := hT.get 16 _ rfl
        have hset := setBox_box [(14, .int .u64 cver), (15, .int .i64 cn), (16, .slice a3 cl k3)] hT
        have hbS := setBox_but fb [(14, .int .u64 cver), (15, .int .i64 cn), (16, .slice a3 cl k3)] w
        refine Reg.out_skipP (w' := setBox w fb [(14, .int .u64 cver), (15, .int .i64 cn), (16, .slice a3 cl k3)]) ?_ ⟨x + 1, trivial, Reg.PPres.heavy hbS, Reg.PInv.heavy hI 6 (by decide) (by simp) hk hbS ⟨fun e => by omega, fun e => hset, fun e => by omega⟩⟩
        clear hI hset hT hbS
        simp only [setBox]
        go_simp
      · refine Reg.GStepAt.plain (i := 7) rfl ?_
        intro x L ev w hI hk hp hA
        have e33 : ev (.tmp 33) = .pointer (some ⟨fb, 0, none⟩) := hA.val 1 _ 33 rfl (hp ⟨1, .data⟩ (by simp) rfl) rfl
        have hcc := hA.const
        clear hA hp
        refine Reg.out_value (v := .pointer (some ⟨fb, 0, none⟩)) ?_ ⟨x, rfl, Reg.PPres.refl _ _ _, Reg.PInv.light HF hI 7 (by decide) (Below.refl _ _)⟩
        go_simp
      · refine Reg.GStepAt.plain (i := 8) rfl ?_
        intro x L ev w hI hk hp hA
        have e38 : ev (.tmp 38) = .pointer (some ⟨fb, 0, none⟩) := hA.val 7 _ 38 rfl (hp ⟨7, .data⟩ (by simp) rfl) rfl
        have hcc := hA.const
        clear hA hp
        refine Reg.out_value (v := .pointer (some ⟨fb, 5, none⟩)) ?_ ⟨x, rfl, Reg.PPres.refl _ _ _, Reg.PInv.light HF hI 8 (by decide) (Below.refl _ _)⟩
        go_simp
      · refine Reg.GStepAt.plain (i := 9) rfl ?_
        intro x L ev w hI hk hp hA
        have e39 : ev (.tmp 39) = .pointer (some ⟨fb, 5, none⟩) := hA.val 8 _ 39 rfl (hp ⟨8, .data⟩ (by simp) rfl) rfl
        have hcc := hA.const
        have L6 : L.getD 6 false = true := hp ⟨6, .chain⟩ (by simp) rfl
        clear hA hp
        have hx : x = 1 := hI.1.trans (Reg.cnt_one2 L6 (Reg.getD_true hk))
        have hT := hI.2.2.2.1 hx
        obtain ⟨c5, y5⟩ := hT.get 5 _ rfl
        have hset := hT.set 5 (.int .i64 3)
        have hbS : But (fun j => j = fb) w (w.setCell ⟨fb, 5, none⟩ (.int .i64 3)) := (But.refl (fun j => j = fb) w).set1 fb 5 rfl _
        refine Reg.out_skipP (w' := w.setCell ⟨fb, 5, none⟩ (.int .i64 3)) ?_ ⟨x + 1, trivial, Reg.PPres.heavy hbS, Reg.PInv.heavy hI 9 (by decide) (by simp) hk hbS ⟨fun e => by omega, fun e => by omega, fun e => hset⟩⟩
        clear hI hset hT hbS
        go_simp
      intro gx L act wz hall hI hF
      have g32 : act.eval (.tmp 32) = .pointer (some ⟨fb, 0, none⟩) := hF.val 0 _ 32 rfl (hall 0 (by simp)) rfl
      have g33 : act.eval (.tmp 33) = .pointer (some ⟨fb, 0, none⟩) := hF.val 1 _ 33 rfl (hall 1 (by simp)) rfl
      have g34 : act.eval (.tmp 34) = .agg #[.int .u64 cver, .int .i64 cn, .slice a3 cl k3] := hF.val 2 _ 34 rfl (hall 2 (by simp)) rfl
      have g35 : act.eval (.tmp 35) = .pointer (some ⟨fb, 0, none⟩) := hF.val 3 _ 35 rfl (hall 3 (by simp)) rfl
      have g36 : act.eval (.tmp 36) = .pointer (some ⟨fb, 11, none⟩) := hF.val 4 _ 36 rfl (hall 4 (by simp)) rfl
      have g37 : act.eval (.tmp 37) = .pointer (some ⟨fb, 14, none⟩) := hF.val 5 _ 37 rfl (hall 5 (by simp)) rfl
      have g38 : act.eval (.tmp 38) = .pointer (some ⟨fb, 0, none⟩) := hF.val 7 _ 38 rfl (hall 7 (by simp)) rfl
      have g39 : act.eval (.tmp 39) = .pointer (some ⟨fb, 5, none⟩) := hF.val 8 _ 39 rfl (hall 8 (by simp)) rfl
      have hact := hF.act [32, 33, 34, 35, 36, 37, 38, 39] (by kernel_rfl)
      obtain ⟨hxz, hBz, hFz⟩ := Reg.PInv.done hI (fun j hj => hall j (by simp at hj ⊢; omega))
      clear hF hall
      simp only [List.foldl_cons, List.foldl_nil] at hact
      rw [g32, g33, g34, g35, g36, g37, g38, g39] at hact
      clear g32 g33 g34 g35 g36 g37 g38 g39
      simp only [List.setIfInBounds_toArray, List.set_cons_succ, List.set_cons_zero] at hact
      subst hact
      obtain ⟨hB5, hM5, hS5, hS05, hS15, hi0, hi1, hbw, hPf, hd, hPl, hOl⟩ := HB5.out
      obtain ⟨hn3, hs1, hs2, hs3, hnb, hcl⟩ := hn3'.out
      have hB6 := hFz.2.2 rfl
      have FIN := hidq (rdEnd_of (w := w) (P := P) (F' := F2) [] (hM5.but hBz (fun k hk e => hOf (e ▸ hk))) (hbw.then hBz (fun j _ e => e ▸ hPf)) hPf hB6 (by rw [HF3.out, ← hcl]; rfl) hOf
        (by rw [HF3.out]; exact hS05.but hBz (fun j hj => (hi0 j hj).2)) (fun j hj => ⟨(hi0 j hj).2, fun e => hd _ e (hi0 j hj).1, .inl (hi0 j hj).1⟩)
        (by rw [HF3.out]; exact hS5.but hBz (fun j hj e => by have := hn3 j hj; have := hPl _ hPf; omega)) (fun j hj => by have := hn3 j hj; exact ⟨fun e => by have := hPl _ hPf; omega, fun e => by have := hOl _ e; omega, .inr (by omega)⟩))
      clear hB5 hM5 hS5 hS05 hS15 hi0 hi1 hbw hPf hd hPl hOl hn3 hs1 hs2 hs3 hnb hB6 hBz hFz HB5 FC HF hxz
      go_wp2
      go_end0
      exact FIN.out
    · have t1 : (cn == want) = false := by simpa using hyes
      have t2 : decide (cn = want) = false := decide_eq_false hyes
      have hg : ∀ nq pc', F2 = { F with empty := e2, seen := F.seen + 1, pc := pc' } → ∀ s, s.foldl (fun l p => l.set p.1 p.2) ((F.l a0 k0 a1 k1).set 10 (.bool e2)) = F2.l a0 k0 a1 k1 → RdEnd b fb O P M F2 w (.returned (.tuple #[])) (setBox (W5.drewN nq) fb s) := fun nq pc' hF3 s hl => by
        obtain ⟨hB5, hM5, hS5, hS05, hS15, hi0, hi1, hbw, hPf, hd, hPl, hOl⟩ := HB5.out
        have hq : Below W5.heap.size W5 (W5.drewN nq) := below_drewN (Below.refl _ _) nq
        exact rdEnd_of (w := w) (P := P) (F' := F2) s (hM5.below hq) (hbw.then (But.of_below (S := fun _ => False) hq) (fun j _ e => False.elim e)) hPf (hB5.below hq) hl hOf
          (by rw [hF3]; exact hS05.below hq) (fun j hj => ⟨(hi0 j hj).2, fun e => hd _ e (hi0 j hj).1, .inl (hi0 j hj).1⟩)
          (by rw [hF3]; exact hS15.below hq) (fun j hj => ⟨(hi1 j hj).2, fun e => hd _ e (hi1 j hj).1, .inl (hi1 j hj).1⟩)
      have HGN := hidq hg
      have hF2n : F2 = { F with empty := e2, seen := F.seen + 1, pc := if F.seen + 1 = k then 4 else F.pc } := by
        rw [← hF2, kLook_no (by rw [hat, hcv]; exact hyes), hat, hcv, ← hE2]
      have HFn := hidq hF2n
      clear hg hF2n hF2 hat hcv hB5 hb45 hBc5 hQ5 hs5 hE2 h hf hd hb1 hBq hb13 hb03 hBc hb04 hf4 hM4 hQ4 hS4 hS3 hn3 hb3 hB4 hS04 hS14 hi0 hi1 HB2 HH hs1 hs2 hs3 hk hcl hyes HB5 FC hb4
      by_cases hlast : F.seen + 1 = k
      · have HGL := hidq (fun nq => HGN.out nq 4 (by rw [HFn.out, if_pos hlast]) [(7, .int .i64 (F.seen + 1)), (5, .int .i64 4)] (by rw [HFn.out, if_pos hlast]; rfl))
        have HLL := hidq hlast
        have hsb0 : 0 ≤ F.seen := hs.1
        have hsb1 : F.seen ≤ 100 := hs.2
        have tk : (F.seen + 1 == k) = true := by simpa using hlast
        clear HGN HFn hlast hs
        subst he2
        go_wp2_with fail
        go_quiet (fail)
        go_wp2
        go_end0
        exact HGL.out nq
      · have HGL := hidq (fun nq => HGN.out nq F.pc (by rw [HFn.out, if_neg hlast]) [(7, .int .i64 (F.seen + 1))] (by rw [HFn.out, if_neg hlast]; rfl))
        have hsb0 : 0 ≤ F.seen := hs.1
        have hsb1 : F.seen ≤ 100 := hs.2
        have tk : (F.seen + 1 == k) = false := by simpa using hlast
        have tk2 : decide (F.seen + 1 = k) = false := decide_eq_false hlast
        clear HGN HFn hlast hs
        subst he2
        go_wp2_with fail
        go_quiet (fail)
        go_wp2
        go_end0
        exact HGL.out nq
  · rw [hem] at f10
    obtain ⟨e2, he2⟩ : ∃ e2 : Bool, e2 = true := ⟨_, rfl⟩
    obtain ⟨W5, hW5⟩ : ∃ W5, W4.setCell ⟨fb, 10, none⟩ (.bool e2) = W5 := ⟨_, rfl⟩
    have hB5 := hB4.set 10 (.bool e2)
    have hb45 : But (fun j => j = fb) W4 (W4.setCell ⟨fb, 10, none⟩ (.bool e2)) := (But.refl (fun j => j = fb) W4).set1 fb 10 rfl _
    rw [hW5] at hB5 hb45
    have hBc5 := hBc.but hb45 (fun e => hne1 e.symm)
    have hQ5 := hQ4.but hb45 (fun e => hne2 e.symm)
    have hs5 : W5.heap.size = W4.heap.size := by rw [← hW5, World.size_setCell]
    have HB5 := hidq (And.intro hB5 (And.intro (hM4.but hb45 (fun k hk e => hOf (e ▸ hk))) (And.intro (hS4.but hb45 (fun j hj e => by have := hn3 j hj; omega)) (And.intro (hS04.but hb45 (fun j hj => (hi0 j hj).2)) (And.intro (hS14.but hb45 (fun j hj => (hi1 j hj).2)) (And.intro hi0 (And.intro hi1 (And.intro ((But.of_below hb04).then hb45 (fun j _ e => (e ▸ hf.ob : P j))) (And.intro hf.ob (And.intro hd (And.intro hf.lt h.lt)))))))))))
    have FC := hidq (fun W (hW : But (fun j => j = fb) W5 W) => (show W.cell? ⟨cb, 0, none⟩ = some (.int .u64 cver) ∧ W.cell? ⟨cb, 1, none⟩ = some (.int .i64 cn) ∧ W.cell? ⟨cb, 2, none⟩ = some (.slice a3 cl k3) from by
      have q := hBc5.but hW (fun e => hne1 e.symm)
      exact ⟨(q.get 0 _ rfl).1, (q.get 1 _ rfl).1, (q.get 2 _ rfl).1⟩))
    have hE2 : (F.empty || decide (cn = 0)) = e2 := by rw [he2, hem]; rfl
    have b15 := (hBc5.get 1 _ rfl).1
    have hbl5 := hBc5.lt
    have m05 := (hQ5.get 0 _ rfl).1
    have hql5 := hQ5.lt
    obtain ⟨g7, z7⟩ := hB5.get 7 _ rfl
    obtain ⟨g5, z5⟩ := hB5.get 5 _ rfl
    have hfl5 := hB5.lt
    by_cases hyes : cn = want
    · have hF3 : F2 = { F with empty := e2, c1 := ⟨cver, cn, cL⟩, pc := 3 } := by
        rw [← hF2, kLook_yes (by rw [hat, hcv]; exact hyes), hat, hcv, ← hE2]
      have HF3 := hidq hF3
      have hn3' := hidq (And.intro hn3 (And.intro hs1 (And.intro hs2 (And.intro hs3 (And.intro hnb hcl)))))
      subst hyes
      have t1 : (cn == cn) = true := by simp
      clear hF3 hF2 hat hcv hB5 hb45 hBc5 hQ5 hs5 hE2 h hf hd hb1 hBq hb13 hb03 hBc hb04 hf4 hM4 hQ4 hS4 hS3 hn3 hb3 hB4 hS04 hS14 hi0 hi1 HB2 HH hs1 hs2 hs3 hk hs hcl hb4
      have hW5t : W4.setCell ⟨fb, 10, none⟩ (.bool true) = W5 := by rw [← hW5, he2]
      have HW5t := hidq hW5t
      clear hW5t
      go_wp2_with fail
      rw [HW5t.out]
      clear HW5t
      clear hW5 he2 f10 y10 f7 y7 f5 y5 f14 y14 f15 y15 f16 y16 b0 b1 b2 m0 hfl hbl hql hfp hW4 hW1
      have HF : ∀ x w w', Below w.heap.size w w' → (fun x w => (x = 0 → BoxAt w fb ((F.l a0 k0 a1 k1).set 10 (.bool e2))) ∧ (x = 1 → BoxAt w fb (((((F.l a0 k0 a1 k1).set 10 (.bool e2)).set 14 (.int .u64 cver)).set 15 (.int .i64 cn)).set 16 (.slice a3 cl k3))) ∧ (x = 2 → BoxAt w fb ((((((F.l a0 k0 a1 k1).set 10 (.bool e2)).set 14 (.int .u64 cver)).set 15 (.int .i64 cn)).set 16 (.slice a3 cl k3)).set 5 (.int .i64 3)))) x w → (fun x w => (x = 0 → BoxAt w fb ((F.l a0 k0 a1 k1).set 10 (.bool e2))) ∧ (x = 1 → BoxAt w fb (((((F.l a0 k0 a1 k1).set 10 (.bool e2)).set 14 (.int .u64 cver)).set 15 (.int .i64 cn)).set 16 (.slice a3 cl k3))) ∧ (x = 2 → BoxAt w fb ((((((F.l a0 k0 a1 k1).set 10 (.bool e2)).set 14 (.int .u64 cver)).set 15 (.int .i64 cn)).set 16 (.slice a3 cl k3)).set 5 (.int .i64 3)))) x w' := fun x w w' hb hh => ⟨fun e => (hh.1 e).below hb, fun e => (hh.2.1 e).below hb, fun e => (hh.2.2 e).below hb⟩
      refine Reg.wp_region_ghost (Reg.gofList (klook4R fb cl k3 a3 cver cn)) (Reg.PPres (fun j => j = fb)) (Reg.PInv [6, 9] (fun j => j = fb) W5 (fun x w => (x = 0 → BoxAt w fb ((F.l a0 k0 a1 k1).set 10 (.bool e2))) ∧ (x = 1 → BoxAt w fb (((((F.l a0 k0 a1 k1).set 10 (.bool e2)).set 14 (.int .u64 cver)).set 15 (.int .i64 cn)).set 16 (.slice a3 cl k3))) ∧ (x = 2 → BoxAt w fb ((((((F.l a0 k0 a1 k1).set 10 (.bool e2)).set 14 (.int .u64 cver)).set 15 (.int .i64 cn)).set 16 (.slice a3 cl k3)).set 5 (.int .i64 3))))) 0 (by kernel_rfl) (by kernel_rfl) (Reg.GAllKept.at _ (klook4R_kept fb cl k3 a3 cver cn)) (Reg.PInv.start 10 ⟨fun _ => HB5.out.1.drew, (fun e => by cases e), (fun e => by cases e)⟩) ⟨?_, ?_, ?_, ?_, ?_, ?_, ?_, ?_, ?_, ?_, trivial⟩ ?_
      · refine Reg.GStepAt.plain (i := 0) rfl ?_
        intro x L ev w hI hk hp hA
        have e2 : ev (.tmp 2) = .pointer (some ⟨fb, 0, none⟩) := hA.oldNone 2 (by kernel_rfl)
        have hcc := hA.const
        clear hA hp
        refine Reg.out_value (v := .pointer (some ⟨fb, 0, none⟩)) ?_ ⟨x, rfl, Reg.PPres.refl _ _ _, Reg.PInv.light HF hI 0 (by decide) (Below.refl _ _)⟩
        go_simp
      · refine Reg.GStepAt.plain (i := 1) rfl ?_
        intro x L ev w hI hk hp hA
        have e2 : ev (.tmp 2) = .pointer (some ⟨fb, 0, none⟩) := hA.oldNone 2 (by kernel_rfl)
        have hcc := hA.const
        clear hA hp
        refine Reg.out_value (v := .pointer (some ⟨fb, 0, none⟩)) ?_ ⟨x, rfl, Reg.PPres.refl _ _ _, Reg.PInv.light HF hI 1 (by decide) (Below.refl _ _)⟩
        go_simp
      · refine Reg.GStepAt.plain (i := 2) rfl ?_
        intro x L ev w hI hk hp hA
        have e8 : ev (.tmp 8) = .pointer (some ⟨cb, 0, none⟩) := hA.oldNone 8 (by kernel_rfl)
        have hcc := hA.const
        clear hA hp
        have f0 := (FC.out w hI.2.1).1
        have f1 := (FC.out w hI.2.1).2.1
        have f2 := (FC.out w hI.2.1).2.2
        refine Reg.out_value (v := .agg #[.int .u64 cver, .int .i64 cn, .slice a3 cl k3]) ?_ ⟨x, rfl, Reg.PPres.refl _ _ _, Reg.PInv.light HF hI 2 (by decide) (Below.refl _ _)⟩
        go_simp
      · refine Reg.GStepAt.plain (i := 3) rfl ?_
        intro x L ev w hI hk hp hA
        have e32 : ev (.tmp 32) = .pointer (some ⟨fb, 0, none⟩) := hA.val 0 _ 32 rfl (hp ⟨0, .data⟩ (by simp) rfl) rfl
        have hcc := hA.const
        clear hA hp
        refine Reg.out_value (v := .pointer (some ⟨fb, 0, none⟩)) ?_ ⟨x, rfl, Reg.PPres.refl _ _ _, Reg.PInv.light HF hI 3 (by decide) (Below.refl _ _)⟩
        go_simp
      · refine Reg.GStepAt.plain (i := 4) rfl ?_
        intro x L ev w hI hk hp hA
        have e35 : ev (.tmp 35) = .pointer (some ⟨fb, 0, none⟩) := hA.val 3 _ 35 rfl (hp ⟨3, .data⟩ (by simp) rfl) rfl
        have hcc := hA.const
        clear hA hp
        refine Reg.out_value (v := .pointer (some ⟨fb, 11, none⟩)) ?_ ⟨x, rfl, Reg.PPres.refl _ _ _, Reg.PInv.light HF hI 4 (by decide) (Below.refl _ _)⟩
        go_simp
      · refine Reg.GStepAt.plain (i := 5) rfl ?_
        intro x L ev w hI hk hp hA
        have e36 : ev (.tmp 36) = .pointer (some ⟨fb, 11, none⟩) := hA.val 4 _ 36 rfl (hp ⟨4, .data⟩ (by simp) rfl) rfl
        have hcc := hA.const
        clear hA hp
        refine Reg.out_value (v := .pointer (some ⟨fb, 14, none⟩)) ?_ ⟨x, rfl, Reg.PPres.refl _ _ _, Reg.PInv.light HF hI 5 (by decide) (Below.refl _ _)⟩
        go_simp
      · refine Reg.GStepAt.plain (i := 6) rfl ?_
        intro x L ev w hI hk hp hA
        have e37 : ev (.tmp 37) = .pointer (some ⟨fb, 14, none⟩) := hA.val 5 _ 37 rfl (hp ⟨5, .data⟩ (by simp) rfl) rfl
        have e34 : ev (.tmp 34) = .agg #[.int .u64 cver, .int .i64 cn, .slice a3 cl k3] := hA.val 2 _ 34 rfl (hp ⟨2, .data⟩ (by simp) rfl) rfl
        have hcc := hA.const
        have NL := Reg.not_listed hA 6 9 _ rfl ⟨6, .chain⟩ (by simp) rfl hk
        clear hA hp
        have hx : x = 0 := hI.1.trans (Reg.cnt_zero2 (Reg.getD_true hk) NL)
        have hT := hI.2.2.1 hx
        obtain ⟨c14, y14⟩ := hT.get 14 _ rfl
        obtain ⟨c15, y15⟩ := hT.get 15 _ rfl
        obtain ⟨c16, y16⟩ := hT.get 16 _ rfl
        have hset := setBox_box [(14, .int .u64 cver), (15, .int .i64 cn), (16, .slice a3 cl k3)] hT
        have hbS := setBox_but fb [(14, .int .u64 cver), (15, .int .i64 cn), (16, .slice a3 cl k3)] w
        refine Reg.out_skipP (w' := setBox w fb [(14, .int .u64 cver), (15, .int .i64 cn), (16, .slice a3 cl k3)]) ?_ ⟨x + 1, trivial, Reg.PPres.heavy hbS, Reg.PInv.heavy hI 6 (by decide) (by simp) hk hbS ⟨fun e => by omega, fun e => hset, fun e => by omega⟩⟩
        clear hI hset hT hbS
        simp only [setBox]
        go_simp
      · refine Reg.GStepAt.plain (i := 7) rfl ?_
        intro x L ev w hI hk hp hA
        have e33 : ev (.tmp 33) = .pointer (some ⟨fb, 0, none⟩) := hA.val 1 _ 33 rfl (hp ⟨1, .data⟩ (by simp) rfl) rfl
        have hcc := hA.const
        clear hA hp
        refine Reg.out_value (v := .pointer (some ⟨fb, 0, none⟩)) ?_ ⟨x, rfl, Reg.PPres.refl _ _ _, Reg.PInv.light HF hI 7 (by decide) (Below.refl _ _)⟩
        go_simp
      · refine Reg.GStepAt.plain (i := 8) rfl ?_
        intro x L ev w hI hk hp hA
        have e38 : ev (.tmp 38) = .pointer (some ⟨fb, 0, none⟩) := hA.val 7 _ 38 rfl (hp ⟨7, .data⟩ (by simp) rfl) rfl
        have hcc := hA.const
        clear hA hp
        refine Reg.out_value (v := .pointer (some ⟨fb, 5, none⟩)) ?_ ⟨x, rfl, Reg.PPres.refl _ _ _, Reg.PInv.light HF hI 8 (by decide) (Below.refl _ _)⟩
        go_simp
      · refine Reg.GStepAt.plain (i := 9) rfl ?_
        intro x L ev w hI hk hp hA
        have e39 : ev (.tmp 39) = .pointer (some ⟨fb, 5, none⟩) := hA.val 8 _ 39 rfl (hp ⟨8, .data⟩ (by simp) rfl) rfl
        have hcc := hA.const
        have L6 : L.getD 6 false = true := hp ⟨6, .chain⟩ (by simp) rfl
        clear hA hp
        have hx : x = 1 := hI.1.trans (Reg.cnt_one2 L6 (Reg.getD_true hk))
        have hT := hI.2.2.2.1 hx
        obtain ⟨c5, y5⟩ := hT.get 5 _ rfl
        have hset := hT.set 5 (.int .i64 3)
        have hbS : But (fun j => j = fb) w (w.setCell ⟨fb, 5, none⟩ (.int .i64 3)) := (But.refl (fun j => j = fb) w).set1 fb 5 rfl _
        refine Reg.out_skipP (w' := w.setCell ⟨fb, 5, none⟩ (.int .i64 3)) ?_ ⟨x + 1, trivial, Reg.PPres.heavy hbS, Reg.PInv.heavy hI 9 (by decide) (by simp) hk hbS ⟨fun e => by omega, fun e => by omega, fun e => hset⟩⟩
        clear hI hset hT hbS
        go_simp
      intro gx L act wz hall hI hF
      have g32 : act.eval (.tmp 32) = .pointer (some ⟨fb, 0, none⟩) := hF.val 0 _ 32 rfl (hall 0 (by simp)) rfl
      have g33 : act.eval (.tmp 33) = .pointer (some ⟨fb, 0, none⟩) := hF.val 1 _ 33 rfl (hall 1 (by simp)) rfl
      have g34 : act.eval (.tmp 34) = .agg #[.int .u64 cver, .int .i64 cn, .slice a3 cl k3] := hF.val 2 _ 34 rfl (hall 2 (by simp)) rfl
      have g35 : act.eval (.tmp 35) = .pointer (some ⟨fb, 0, none⟩) := hF.val 3 _ 35 rfl (hall 3 (by simp)) rfl
      have g36 : act.eval (.tmp 36) = .pointer (some ⟨fb, 11, none⟩) := hF.val 4 _ 36 rfl (hall 4 (by simp)) rfl
      have g37 : act.eval (.tmp 37) = .pointer (some ⟨fb, 14, none⟩) := hF.val 5 _ 37 rfl (hall 5 (by simp)) rfl
      have g38 : act.eval (.tmp 38) = .pointer (some ⟨fb, 0, none⟩) := hF.val 7 _ 38 rfl (hall 7 (by simp)) rfl
      have g39 : act.eval (.tmp 39) = .pointer (some ⟨fb, 5, none⟩) := hF.val 8 _ 39 rfl (hall 8 (by simp)) rfl
      have hact := hF.act [32, 33, 34, 35, 36, 37, 38, 39] (by kernel_rfl)
      obtain ⟨hxz, hBz, hFz⟩ := Reg.PInv.done hI (fun j hj => hall j (by simp at hj ⊢; omega))
      clear hF hall
      simp only [List.foldl_cons, List.foldl_nil] at hact
      rw [g32, g33, g34, g35, g36, g37, g38, g39] at hact
      clear g32 g33 g34 g35 g36 g37 g38 g39
      simp only [List.setIfInBounds_toArray, List.set_cons_succ, List.set_cons_zero] at hact
      subst hact
      obtain ⟨hB5, hM5, hS5, hS05, hS15, hi0, hi1, hbw, hPf, hd, hPl, hOl⟩ := HB5.out
      obtain ⟨hn3, hs1, hs2, hs3, hnb, hcl⟩ := hn3'.out
      have hB6 := hFz.2.2 rfl
      have FIN := hidq (rdEnd_of (w := w) (P := P) (F' := F2) [] (hM5.but hBz (fun k hk e => hOf (e ▸ hk))) (hbw.then hBz (fun j _ e => e ▸ hPf)) hPf hB6 (by rw [HF3.out, ← hcl]; rfl) hOf
        (by rw [HF3.out]; exact hS05.but hBz (fun j hj => (hi0 j hj).2)) (fun j hj => ⟨(hi0 j hj).2, fun e => hd _ e (hi0 j hj).1, .inl (hi0 j hj).1⟩)
        (by rw [HF3.out]; exact hS5.but hBz (fun j hj e => by have := hn3 j hj; have := hPl _ hPf; omega)) (fun j hj => by have := hn3 j hj; exact ⟨fun e => by have := hPl _ hPf; omega, fun e => by have := hOl _ e; omega, .inr (by omega)⟩))
      clear hB5 hM5 hS5 hS05 hS15 hi0 hi1 hbw hPf hd hPl hOl hn3 hs1 hs2 hs3 hnb hB6 hBz hFz HB5 FC HF hxz
      go_wp2
      go_end0
      exact FIN.out
    · have t1 : (cn == want) = false := by simpa using hyes
      have t2 : decide (cn = want) = false := decide_eq_false hyes
      have hg : ∀ nq pc', F2 = { F with empty := e2, seen := F.seen + 1, pc := pc' } → ∀ s, s.foldl (fun l p => l.set p.1 p.2) ((F.l a0 k0 a1 k1).set 10 (.bool e2)) = F2.l a0 k0 a1 k1 → RdEnd b fb O P M F2 w (.returned (.tuple #[])) (setBox (W5.drewN nq) fb s) := fun nq pc' hF3 s hl => by
        obtain ⟨hB5, hM5, hS5, hS05, hS15, hi0, hi1, hbw, hPf, hd, hPl, hOl⟩ := HB5.out
        have hq : Below W5.heap.size W5 (W5.drewN nq) := below_drewN (Below.refl _ _) nq
        exact rdEnd_of (w := w) (P := P) (F' := F2) s (hM5.below hq) (hbw.then (But.of_below (S := fun _ => False) hq) (fun j _ e => False.elim e)) hPf (hB5.below hq) hl hOf
          (by rw [hF3]; exact hS05.below hq) (fun j hj => ⟨(hi0 j hj).2, fun e => hd _ e (hi0 j hj).1, .inl (hi0 j hj).1⟩)
          (by rw [hF3]; exact hS15.below hq) (fun j hj => ⟨(hi1 j hj).2, fun e => hd _ e (hi1 j hj).1, .inl (hi1 j hj).1⟩)
      have HGN := hidq hg
      have hF2n : F2 = { F with empty := e2, seen := F.seen + 1, pc := if F.seen + 1 = k then 4 else F.pc } := by
        rw [← hF2, kLook_no (by rw [hat, hcv]; exact hyes), hat, hcv, ← hE2]
      have HFn := hidq hF2n
      clear hg hF2n hF2 hat hcv hB5 hb45 hBc5 hQ5 hs5 hE2 h hf hd hb1 hBq hb13 hb03 hBc hb04 hf4 hM4 hQ4 hS4 hS3 hn3 hb3 hB4 hS04 hS14 hi0 hi1 HB2 HH hs1 hs2 hs3 hk hcl hyes HB5 FC hb4
      by_cases hlast : F.seen + 1 = k
      · have HGL := hidq (fun nq => HGN.out nq 4 (by rw [HFn.out, if_pos hlast]) [(7, .int .i64 (F.seen + 1)), (5, .int .i64 4)] (by rw [HFn.out, if_pos hlast]; rfl))
        have HLL := hidq hlast
        have hsb0 : 0 ≤ F.seen := hs.1
        have hsb1 : F.seen ≤ 100 := hs.2
        have tk : (F.seen + 1 == k) = true := by simpa using hlast
        clear HGN HFn hlast hs
        subst he2
        go_wp2_with fail
        go_quiet (fail)
        go_wp2
        go_end0
        exact HGL.out nq
      · have HGL := hidq (fun nq => HGN.out nq F.pc (by rw [HFn.out, if_neg hlast]) [(7, .int .i64 (F.seen + 1))] (by rw [HFn.out, if_neg hlast]; rfl))
        have hsb0 : 0 ≤ F.seen := hs.1
        have hsb1 : F.seen ≤ 100 := hs.2
        have tk : (F.seen + 1 == k) = false := by simpa using hlast
        have tk2 : decide (F.seen + 1 = k) = false := decide_eq_false hlast
        clear HGN HFn hlast hs
        subst he2
        go_wp2_with fail
        go_quiet (fail)
        go_wp2
        go_end0
        exact HGL.out nq
end Go.Proofs.Ytclcmabohpoaiaa

namespace Go.Proofs.Ytclcmabohpoaiaa
open Go.RowKit Go.Sort

/-- A new box. -/
theorem one_new (w : World) (l : List Value) (t : TypeId) : ∃ W, w.alloc (.cells l.toArray t) = W ∧ Below w.heap.size w W ∧ W.heap.size = w.heap.size + 1 ∧ BoxAt W w.heap.size l :=
  ⟨_, rfl, (Below.refl _ _).alloc (Nat.le_refl _) _, by simp, BoxAt.new w l t⟩

set_option maxRecDepth 20000 in
set_option maxHeartbeats 4000000 in
theorem kmove_any (w : World) (b fb : Nat) (O P : Nat → Prop) (M : Mem) (F : Fr) (h : MemAt w b O M) (hf : FrAt w fb P F) (hd : ∀ k, O k → ¬ P k) (hs : 0 ≤ F.seg ∧ F.seg < 9223372036854775807) (hck : M.clock < 4611686018427387904) :
    Calls Try.prog 120 #[.pointer (some ⟨b, 0, none⟩), .pointer (some ⟨fb, 0, none⟩)] w (StepEnd b fb O P (kMove M F) w) := by
  unfold kMove
  obtain ⟨nb, hnb⟩ : ∃ nb, w.heap.size = nb := ⟨_, rfl⟩
  obtain ⟨W1, hW1', hb1, hs1, hA1⟩ := one_new w Ans.zero.l 48
  have hW1 : w.alloc (.cells #[.bool false, .float .f64 0, .int .i64 0, .int .i64 0] 48) = W1 := hW1'
  rw [hnb] at hA1 hs1
  have hsf := run_store_flt (P := Try.prog)
  have hf1 := hf.below hb1
  obtain ⟨a0, k0, a1, k1, hB1, _⟩ := hf1.box
  obtain ⟨f5, z5⟩ := hB1.get 5 _ rfl
  have hfl := hB1.lt
  have hft := hf1.turn (F' := { F with pc := 0 }) 5 (.int .i64 0) (fun _ _ _ _ => rfl) rfl rfl
  have hbt : But (fun j => j = fb) W1 (W1.setCell ⟨fb, 5, none⟩ (.int .i64 0)) := (But.refl (fun j => j = fb) W1).set1 fb 5 rfl _
  obtain ⟨W2, hW2⟩ : ∃ W2, W1.setCell ⟨fb, 5, none⟩ (.int .i64 0) = W2 := ⟨_, rfl⟩
  rw [hW2] at hft hbt
  have hfp := hf.lt _ hf.ob
  have hOf : ¬ O fb := fun e => hd _ e hf.ob
  have hM2 := (h.below hb1).but hbt (fun k hk e => hOf (e ▸ hk))
  have hA2 := hA1.but hbt (fun e => by omega)
  have hs2 : W2.heap.size = nb + 1 := by rw [← hW2, World.size_setCell]; exact hs1
  obtain ⟨b0, j0, b1, j1, hB2, _⟩ := hft.box
  have g6 := (hB2.get 6 _ rfl).1
  have g8 := (hB2.get 8 _ rfl).1
  have g11 := (hB2.get 11 _ rfl).1
  have hfl2 := hB2.lt
  have hWr : Calls Try.prog 63 #[.pointer (some ⟨b, 0, none⟩), .int .i64 F.at_, .int .u64 F.c0.ver, .agg #[.int .i64 (F.seg + 1), .slice none 0 0]] W2.drew fun e w' => e = .returned (.bool (M.can F.at_ F.c0.ver)) ∧ MemAt w' b (own' O W2.drew w') (M.write F.at_ F.c0.ver (F.seg + 1) []) ∧ But O W2.drew w' :=
    write_any b O M F.at_ F.c0.ver (F.seg + 1) none 0 [] W2.drew (hM2.but (S := fun _ => False) (But.refl _ _).drew (fun _ _ e => e)) (SlAt.nil _ _) (fun j hj => by obtain ⟨x, hx, _⟩ := hj; cases hx) (Nat.zero_le _) hck
  have HWr := hidq hWr
  have hbw : But (fun k => O k ∨ P k) w W2 := (But.of_below hb1).then hbt (fun j _ e => .inr (e ▸ hf.ob))
  have FIN := hidq (fun w3 (hM3 : MemAt w3 b (own' O W2.drew w3) (M.write F.at_ F.c0.ver (F.seg + 1) [])) (hb3 : But O W2.drew w3) => (show BoxAt w3 nb Ans.zero.l ∧ BoxAt (setBox (setBox w3 fb []) nb Ans.zero.s) nb Ans.zero.l ∧ StepEnd b fb O P (M.write F.at_ F.c0.ver (F.seg + 1) [], { F with pc := 0 }, Ans.zero, false) w (.returned (.tuple #[Ans.zero.v, .bool false])) (setBox (setBox w3 fb []) nb Ans.zero.s) from by
    have hb3' : But O W2 w3 := ⟨hb3.os, hb3.tape, hb3.output, hb3.size, hb3.block⟩
    have hs3 := hb3'.size
    have hG : Grown O w w3 (own' O W2.drew w3) := fun j hj => by
      rcases hj with e | e
      · exact .inl e
      · exact .inr ⟨by have h1 : W2.heap.size ≤ j := e.1; omega, e.2⟩
    have hnO : ¬ O nb := fun e => by have := h.lt _ e; omega
    have hA3 := hA2.but hb3' hnO
    refine ⟨hA3, stepEnd_fr (A := Ans.zero) (d := false) (F' := { F with pc := 0 }) [] hM3 hG (hft.but hb3' (fun k hk e => hd k e hk)) (Grown.refl _ w w3) (fun k hk e => ?_) (hbw.then hb3' (fun j _ e => .inl e)) hf.ob hA3 (by omega) (fun e => ?_) (fun e => by have := hf.lt _ e; omega) (fun _ _ _ _ => rfl) rfl rfl⟩
    · rcases hk with q | q
      · exact hd k q e
      · have h1 : W2.heap.size ≤ k := q.1
        have := hf.lt k e; omega
    · rcases e with q | q
      · exact hnO q
      · have h1 : W2.heap.size ≤ nb := q.1
        omega))
  clear h hf hd hf1 hb1 hs1 hA1 hB1 hft hbt hM2 hA2 hs2 hB2 hWr hbw hW1' hfp hOf hck
  obtain ⟨hs0, hs1⟩ := hs
  go_enter Try.func120, Try.ntmps120
  go_wp2_with fail
  go_still_tail 17, (by kernel_rfl)
  generalize M.can F.at_ F.c0.ver = can at *
  clear hW2 hW1 f5 z5
  go_wp2_with fail
  refine HWr.out.mono ?_
  rintro e w3 ⟨rfl, hM3, hb3⟩
  obtain ⟨hA3, hA4, hE⟩ := FIN.out w3 hM3 hb3
  obtain ⟨q0, x0⟩ := hA3.get 0 _ rfl
  obtain ⟨q1, x1⟩ := hA3.get 1 _ rfl
  obtain ⟨q2, x2⟩ := hA3.get 2 _ rfl
  obtain ⟨q3, x3⟩ := hA3.get 3 _ rfl
  have hal := hA3.lt
  have HE := hidq (And.intro hA4 hE)
  clear hM3 hb3 hA3 hA4 hE HWr FIN g6 g8 g11 hfl2 hfl
  go_wp2
  exact ret_ans (A := Ans.zero) Try.results120 HE.out.1 rfl rfl rfl HE.out.2

def kwrite2R (b fb _nb n cap : Nat) (F : Fr) (k x at_ : Int) (a : Option Addr) : List (Value → World → Prop) :=
  [fun v _ => v = .pointer (some ⟨b, 0, none⟩),
   fun v _ => v = .agg #[.int .i64 k],
   fun v _ => v = .pointer (some ⟨fb, 0, none⟩),
   fun v _ => v = .int .i64 at_,
   fun v _ => v = .pointer (some ⟨fb, 0, none⟩),
   fun v _ => v = .pointer (some ⟨fb, 0, none⟩),
   fun v _ => v = .pointer (some ⟨fb, 11, none⟩),
   fun v _ => v = .pointer (some ⟨fb, 14, none⟩),
   fun v _ => v = .pointer (some ⟨fb, 14, none⟩),
   fun v _ => v = .int .u64 F.c1.ver,
   fun v _ => v = .agg #[.int .i64 x, .slice a n cap]]
theorem kwrite2R_kept (b fb nb n cap : Nat) (F : Fr) (k x at_ : Int) (a : Option Addr) : Reg.AllKept Reg.Keeps (kwrite2R b fb nb n cap F k x at_ a) :=
  ⟨(fun _ _ _ _ h => h), (fun _ _ _ _ h => h), (fun _ _ _ _ h => h), (fun _ _ _ _ h => h), (fun _ _ _ _ h => h), (fun _ _ _ _ h => h), (fun _ _ _ _ h => h), (fun _ _ _ _ h => h), (fun _ _ _ _ h => h), (fun _ _ _ _ h => h), (fun _ _ _ _ h => h), trivial⟩

set_option maxRecDepth 20000 in
set_option maxHeartbeats 8000000 in
theorem kwrite_any (k x : Int) (w : World) (b fb : Nat) (O P : Nat → Prop) (M : Mem) (F : Fr) (a : Option Addr) (cap n : Nat) (L : List It) (pp : Nat) (pv : Int) (h : MemAt w b O M) (hf : FrAt w fb P F) (hd : ∀ k, O k → ¬ P k) (hk : 1 ≤ k ∧ k ≤ 16) (hs : 0 ≤ F.seen ∧ F.seen ≤ 100) (hn : L.length = n) (hS : SlAt 2 w a cap n (flatI L)) (hOa : ∀ j, inB a j → ¬ O j ∧ j ≠ fb) (hL : n ≤ 1000000) (hck : M.clock < 4611686018427387904) :
    Calls Try.prog 119 #[.agg #[.int .i64 k], .pointer (some ⟨b, 0, none⟩), .pointer (some ⟨fb, 0, none⟩), .agg #[.int .i64 x, .slice a n cap], .agg #[.float .f64 pp, .int .i64 pv]] w (StepEnd b fb O P (kWrite k x L pp pv M F) w) := by
  obtain ⟨nb, hnb⟩ : ∃ nb, w.heap.size = nb := ⟨_, rfl⟩
  obtain ⟨V1, hV1', hv1, hz1, hQ1⟩ := one_new w [.int .i64 k] 57
  obtain ⟨V2, hV2', hv2, hz2, hX2⟩ := one_new V1 [.int .i64 x, .slice a n cap] 80
  obtain ⟨V3, hV3', hv3, hz3, hI3⟩ := one_new V2 [.float .f64 pp, .int .i64 pv] 35
  obtain ⟨W1, hW1', hv4, hz4, hA4⟩ := one_new V3 Ans.zero.l 48
  have hV1 : w.alloc (.cells #[.int .i64 k] 57) = V1 := hV1'
  have hV2 : V1.alloc (.cells #[.int .i64 x, .slice a n cap] 80) = V2 := hV2'
  have hV3 : V2.alloc (.cells #[.float .f64 pp, .int .i64 pv] 35) = V3 := hV3'
  have hW1 : V3.alloc (.cells #[.bool false, .float .f64 0, .int .i64 0, .int .i64 0] 48) = W1 := hW1'
  rw [hnb] at hQ1 hz1
  rw [hz1] at hX2 hz2
  rw [hz2] at hI3 hz3
  rw [hz3] at hA4 hz4
  have hb12 : Below w.heap.size w V2 := hv1.trans (hv2.mono (by omega))
  have hb13 : Below w.heap.size w V3 := hb12.trans (hv3.mono (by omega))
  have hb1 : Below w.heap.size w W1 := hb13.trans (hv4.mono (by omega))
  have hQ := ((hQ1.below hv2).below hv3).below hv4
  have hX := (hX2.below hv3).below hv4
  have hIt := hI3.below hv4
  have hsf := run_store_flt (P := Try.prog)
  have hf1 := hf.below hb1
  obtain ⟨a0, k0, a1, k1, hB1, _⟩ := hf1.box
  obtain ⟨f5, z5⟩ := hB1.get 5 _ rfl
  have hfl := hB1.lt
  have hft := hf1.turn (F' := { F with pc := 0 }) 5 (.int .i64 0) (fun _ _ _ _ => rfl) rfl rfl
  have hbt : But (fun j => j = fb) W1 (W1.setCell ⟨fb, 5, none⟩ (.int .i64 0)) := (But.refl (fun j => j = fb) W1).set1 fb 5 rfl _
  obtain ⟨W2, hW2⟩ : ∃ W2, W1.setCell ⟨fb, 5, none⟩ (.int .i64 0) = W2 := ⟨_, rfl⟩
  rw [hW2] at hft hbt
  have hfp := hf.lt _ hf.ob
  have hOf : ¬ O fb := fun e => hd _ e hf.ob
  have hM2 := (h.below hb1).but hbt (fun k hk e => hOf (e ▸ hk))
  have hQ2 := hQ.but hbt (fun e => by omega)
  have hX3 := hX.but hbt (fun e => by omega)
  have hI4 := hIt.but hbt (fun e => by omega)
  have hA2 := hA4.but hbt (fun e => by omega)
  have hS2 := (hS.below hb1).but hbt (fun j hj => (hOa j hj).2)
  have hs2 : W2.heap.size = nb + 4 := by rw [← hW2, World.size_setCell]; omega
  obtain ⟨b0, j0, b1, j1, hB2, _⟩ := hft.box
  have hbw : But (fun k => O k ∨ P k) w W2 := (But.of_below hb1).then hbt (fun j _ e => .inr (e ▸ hf.ob))
  have hFb : ∀ W, Below W2.heap.size W2 W → BoxAt W fb (({ F with pc := 0 } : Fr).l b0 j0 b1 j1) := fun W hW => hB2.below hW
  obtain ⟨at_, hat⟩ : ∃ at_, kAt k F = at_ := ⟨_, rfl⟩
  have hAt := hidq (fun W (hW : Below W2.heap.size W2 W) => (show Calls Try.prog 121 #[.agg #[.int .i64 k], .pointer (some ⟨fb, 0, none⟩)] W fun e w' => e = .returned (.int .i64 at_) ∧ Below W.heap.size W w' from by
    have hB := hFb W hW
    have := kat_any k W fb F hk hB.lt (hB.get 3 _ rfl).1 (hB.get 7 _ rfl).1 (hB.get 8 _ rfl).1 hs
    rw [hat] at this
    exact this))
  have FC := hidq (fun W (hW : Below W2.heap.size W2 W) => And.intro ((hFb W hW).get 14 _ rfl).1 (And.intro ((hQ2.below hW).get 0 _ rfl).1 (And.intro ((hX3.below hW).get 0 _ rfl).1 ((hX3.below hW).get 1 _ rfl).1)))
  obtain ⟨r, hr⟩ : ∃ r, kWrite k x L pp pv M F = r := ⟨_, rfl⟩
  rw [hr]
  have hr2 : r = (M.write at_ F.c1.ver x L, { F with pc := 0 }, if M.can at_ F.c1.ver = true then ⟨true, pp, pv, 0⟩ else Ans.zero, M.can at_ F.c1.ver) := by rw [← hr]; unfold kWrite; rw [hat]
  have HR := hidq hr2
  subst hn
  have HWr := hidq (fun W (hW : Below W2.heap.size W2 W) => write_any b O M at_ F.c1.ver x a cap L W (hM2.below hW) (hS2.below hW) (fun j hj => (hOa j hj).1) hL hck)
  obtain ⟨can, hcan⟩ : ∃ can, M.can at_ F.c1.ver = can := ⟨_, rfl⟩
  rw [hcan] at HWr HR
  have FIN := hidq (fun (W w3 : World) (A : Ans) (hW : Below W2.heap.size W2 W) (hM3 : MemAt w3 b (own' O W w3) (M.write at_ F.c1.ver x L)) (hb3 : But O W w3) => (show BoxAt w3 (nb + 3) Ans.zero.l ∧ BoxAt w3 (nb + 2) [.float .f64 pp, .int .i64 pv] ∧ BoxAt (setBox (setBox w3 fb []) (nb + 3) A.s) (nb + 3) A.l ∧ StepEnd b fb O P (M.write at_ F.c1.ver x L, { F with pc := 0 }, A, can) w (.returned (.tuple #[A.v, .bool can])) (setBox (setBox w3 fb []) (nb + 3) A.s) from by
    have hb3' : But O W2 w3 := (But.of_below hW).then hb3 (fun j _ e => e)
    have hs3 := hb3'.size
    have hsW := hW.size
    have hG : Grown O w w3 (own' O W w3) := fun j hj => by
      rcases hj with e | e
      · exact .inl e
      · exact .inr ⟨by omega, e.2⟩
    have hnO : ¬ O (nb + 3) := fun e => by have := h.lt _ e; omega
    have hnO2 : ¬ O (nb + 2) := fun e => by have := h.lt _ e; omega
    have hA3 := hA2.but hb3' hnO
    refine ⟨hA3, hI4.but hb3' hnO2, stepEnd_fr (A := A) (d := can) (F' := { F with pc := 0 }) [] hM3 hG (hft.but hb3' (fun k hk e => hd k e hk)) (Grown.refl _ w w3) (fun k hk e => ?_) (hbw.then hb3' (fun j _ e => .inl e)) hf.ob hA3 (by omega) (fun e => ?_) (fun e => by have := hf.lt _ e; omega) (fun _ _ _ _ => rfl) rfl rfl⟩
    · rcases hk with q | q
      · exact hd k q e
      · have := hf.lt k e; omega
    · rcases e with q | q
      · exact hnO q
      · omega))
  clear h hf hd hf1 hb1 hA4 hB1 hft hbt hM2 hA2 hs2 hB2 hbw hW1' hfp hOf hck hS hS2 hOa hL hQ hX hIt hQ2 hX3 hI4 hFb hr hr2 hat hcan hb12 hb13 hV1' hV2' hV3' hv1 hv2 hv3 hv4 hQ1 hX2 hI3 hz4
  have hrefl : ∀ w : World, Reg.Keeps w w := Reg.Keeps.refl
  obtain ⟨n, hn⟩ : ∃ n, L.length = n := ⟨_, rfl⟩
  rw [hn] at HWr FC hV2 ⊢
  clear hn
  go_enter Try.func119, Try.ntmps119
  go_wp2_with fail
  try rw [hW2]
  clear hV1 hV2 hV3 hW1 hW2 f5 z5 hz1 hz2 hz3
  have hrefl : ∀ w : World, Reg.Keeps w w := Reg.Keeps.refl
  refine Reg.wp_region_props_tail 11 (Reg.ofList (kwrite2R b fb nb n cap F k x at_ a)) Reg.Keeps (fun _ w => Reg.Keeps W2 w) (by kernel_rfl) (by kernel_rfl) (by kernel_rfl) (Reg.AllKept.at _ (kwrite2R_kept b fb nb n cap F k x at_ a)) hrefl (Reg.Keeps.drewN (Reg.Keeps.refl _) 1) ⟨?_, ?_, ?_, ?_, ?_, ?_, ?_, ?_, ?_, ?_, ?_, trivial⟩ ?_
  · refine Reg.StepAt.plain (i := 0) rfl ?_
    intro L ev w hI hk hp hA
    have e1 : ev (.tmp 1) = .pointer (some ⟨b, 0, none⟩) := hA.oldNone 1 (by kernel_rfl)
    have hcc := hA.const
    clear hA hp
    refine Reg.out_value (v := .pointer (some ⟨b, 0, none⟩)) ?_ ⟨rfl, hrefl _, hI⟩
    go_simp
  · refine Reg.StepAt.plain (i := 1) rfl ?_
    intro L ev w hI hk hp hA
    have e5 : ev (.tmp 5) = .pointer (some ⟨nb, 0, none⟩) := hA.oldNone 5 (by kernel_rfl)
    have hcc := hA.const
    clear hA hp
    obtain ⟨f14, m0, m1, m2⟩ := FC.out w hI
    refine Reg.out_value (v := .agg #[.int .i64 k]) ?_ ⟨rfl, hrefl _, hI⟩
    go_simp
  · refine Reg.StepAt.plain (i := 2) rfl ?_
    intro L ev w hI hk hp hA
    have e2 : ev (.tmp 2) = .pointer (some ⟨fb, 0, none⟩) := hA.oldNone 2 (by kernel_rfl)
    have hcc := hA.const
    clear hA hp
    refine Reg.out_value (v := .pointer (some ⟨fb, 0, none⟩)) ?_ ⟨rfl, hrefl _, hI⟩
    go_simp
  · refine Reg.StepAt.plain (i := 3) rfl ?_
    intro L ev w hI hk hp hA
    have e16 : ev (.tmp 16) = .agg #[.int .i64 k] := hA.val 1 _ 16 rfl (hp ⟨1, .data⟩ (by simp) rfl) rfl
    have e17 : ev (.tmp 17) = .pointer (some ⟨fb, 0, none⟩) := hA.val 2 _ 17 rfl (hp ⟨2, .data⟩ (by simp) rfl) rfl
    have hcc := hA.const
    have hcf := hA.func
    clear hA hp
    refine Reg.out_call (f := 121) (args := #[.agg #[.int .i64 k], .pointer (some ⟨fb, 0, none⟩)]) (w0 := w) ?_ ?_
    · go_simp
    refine (hAt.out w hI).mono ?_
    rintro e w' ⟨rfl, hb'⟩
    exact ⟨_, rfl, rfl, hb', Reg.Keeps.trans hI hb'⟩
  · refine Reg.StepAt.plain (i := 4) rfl ?_
    intro L ev w hI hk hp hA
    have e2 : ev (.tmp 2) = .pointer (some ⟨fb, 0, none⟩) := hA.oldNone 2 (by kernel_rfl)
    have hcc := hA.const
    clear hA hp
    refine Reg.out_value (v := .pointer (some ⟨fb, 0, none⟩)) ?_ ⟨rfl, hrefl _, hI⟩
    go_simp
  · refine Reg.StepAt.plain (i := 5) rfl ?_
    intro L ev w hI hk hp hA
    have e19 : ev (.tmp 19) = .pointer (some ⟨fb, 0, none⟩) := hA.val 4 _ 19 rfl (hp ⟨4, .data⟩ (by simp) rfl) rfl
    have hcc := hA.const
    clear hA hp
    refine Reg.out_value (v := .pointer (some ⟨fb, 0, none⟩)) ?_ ⟨rfl, hrefl _, hI⟩
    go_simp
  · refine Reg.StepAt.plain (i := 6) rfl ?_
    intro L ev w hI hk hp hA
    have e20 : ev (.tmp 20) = .pointer (some ⟨fb, 0, none⟩) := hA.val 5 _ 20 rfl (hp ⟨5, .data⟩ (by simp) rfl) rfl
    have hcc := hA.const
    clear hA hp
    refine Reg.out_value (v := .pointer (some ⟨fb, 11, none⟩)) ?_ ⟨rfl, hrefl _, hI⟩
    go_simp
  · refine Reg.StepAt.plain (i := 7) rfl ?_
    intro L ev w hI hk hp hA
    have e21 : ev (.tmp 21) = .pointer (some ⟨fb, 11, none⟩) := hA.val 6 _ 21 rfl (hp ⟨6, .data⟩ (by simp) rfl) rfl
    have hcc := hA.const
    clear hA hp
    refine Reg.out_value (v := .pointer (some ⟨fb, 14, none⟩)) ?_ ⟨rfl, hrefl _, hI⟩
    go_simp
  · refine Reg.StepAt.plain (i := 8) rfl ?_
    intro L ev w hI hk hp hA
    have e22 : ev (.tmp 22) = .pointer (some ⟨fb, 14, none⟩) := hA.val 7 _ 22 rfl (hp ⟨7, .data⟩ (by simp) rfl) rfl
    have hcc := hA.const
    clear hA hp
    refine Reg.out_value (v := .pointer (some ⟨fb, 14, none⟩)) ?_ ⟨rfl, hrefl _, hI⟩
    go_simp
  · refine Reg.StepAt.plain (i := 9) rfl ?_
    intro L ev w hI hk hp hA
    have e23 : ev (.tmp 23) = .pointer (some ⟨fb, 14, none⟩) := hA.val 8 _ 23 rfl (hp ⟨8, .data⟩ (by simp) rfl) rfl
    have hcc := hA.const
    clear hA hp
    obtain ⟨f14, m0, m1, m2⟩ := FC.out w hI
    refine Reg.out_value (v := .int .u64 F.c1.ver) ?_ ⟨rfl, hrefl _, hI⟩
    go_simp
  · refine Reg.StepAt.plain (i := 10) rfl ?_
    intro L ev w hI hk hp hA
    have e8 : ev (.tmp 8) = .pointer (some ⟨nb + 1, 0, none⟩) := hA.oldNone 8 (by kernel_rfl)
    have hcc := hA.const
    clear hA hp
    obtain ⟨f14, m0, m1, m2⟩ := FC.out w hI
    refine Reg.out_value (v := .agg #[.int .i64 x, .slice a n cap]) ?_ ⟨rfl, hrefl _, hI⟩
    go_simp
  intro act wz hI hF
  have g15 : act.eval (.tmp 15) = .pointer (some ⟨b, 0, none⟩) := hF.val 0 _ 15 rfl (by kernel_rfl) rfl
  have g16 : act.eval (.tmp 16) = .agg #[.int .i64 k] := hF.val 1 _ 16 rfl (by kernel_rfl) rfl
  have g17 : act.eval (.tmp 17) = .pointer (some ⟨fb, 0, none⟩) := hF.val 2 _ 17 rfl (by kernel_rfl) rfl
  have g18 : act.eval (.tmp 18) = .int .i64 at_ := hF.val 3 _ 18 rfl (by kernel_rfl) rfl
  have g19 : act.eval (.tmp 19) = .pointer (some ⟨fb, 0, none⟩) := hF.val 4 _ 19 rfl (by kernel_rfl) rfl
  have g20 : act.eval (.tmp 20) = .pointer (some ⟨fb, 0, none⟩) := hF.val 5 _ 20 rfl (by kernel_rfl) rfl
  have g21 : act.eval (.tmp 21) = .pointer (some ⟨fb, 11, none⟩) := hF.val 6 _ 21 rfl (by kernel_rfl) rfl
  have g22 : act.eval (.tmp 22) = .pointer (some ⟨fb, 14, none⟩) := hF.val 7 _ 22 rfl (by kernel_rfl) rfl
  have g23 : act.eval (.tmp 23) = .pointer (some ⟨fb, 14, none⟩) := hF.val 8 _ 23 rfl (by kernel_rfl) rfl
  have g24 : act.eval (.tmp 24) = .int .u64 F.c1.ver := hF.val 9 _ 24 rfl (by kernel_rfl) rfl
  have g25 : act.eval (.tmp 25) = .agg #[.int .i64 x, .slice a n cap] := hF.val 10 _ 25 rfl (by kernel_rfl) rfl
  have hact := hF.actHead [15, 16, 17, 18, 19, 20, 21, 22, 23, 24, 25] (by kernel_rfl)
  clear hF
  simp only [List.foldl_cons, List.foldl_nil] at hact
  rw [g15, g16, g17, g18, g19, g20, g21, g22, g23, g24, g25] at hact
  clear g15 g16 g17 g18 g19 g20 g21 g22 g23 g24 g25
  simp only [List.setIfInBounds_toArray, List.set_cons_succ, List.set_cons_zero] at hact
  subst hact
  simp only [List.drop_succ_cons, List.drop_zero]
  have hI1 : Below W2.heap.size W2 wz := hI
  have hWr := hidq (HWr.out wz hI1)
  have HI := hidq hI1
  clear HWr hI hI1 hAt FC hfl
  go_wp2_with fail
  refine hWr.out.mono ?_
  rintro e w3 ⟨rfl, hM3, hb3⟩
  cases can
  · obtain ⟨hA3, _, hA4, hE⟩ := FIN.out wz w3 Ans.zero HI.out hM3 hb3
    have HR2 := HR.out
    rw [if_neg (by decide)] at HR2
    rw [← HR2] at hE
    obtain ⟨q0, x0⟩ := hA3.get 0 _ rfl
    obtain ⟨q1, x1⟩ := hA3.get 1 _ rfl
    obtain ⟨q2, x2⟩ := hA3.get 2 _ rfl
    obtain ⟨q3, x3⟩ := hA3.get 3 _ rfl
    have hal := hA3.lt
    have HE := hidq (And.intro hA4 hE)
    clear hM3 hb3 hA3 hA4 hE hWr FIN HI HR HR2
    go_wp2
    exact ret_ans (A := Ans.zero) Try.results119 HE.out.1 rfl rfl rfl HE.out.2
  · obtain ⟨hA3, hIt, hA4, hE⟩ := FIN.out wz w3 ⟨true, pp, pv, 0⟩ HI.out hM3 hb3
    have HR2 := HR.out
    rw [if_pos rfl] at HR2
    rw [← HR2] at hE
    obtain ⟨q0, x0⟩ := hA3.get 0 _ rfl
    obtain ⟨q1, x1⟩ := hA3.get 1 _ rfl
    obtain ⟨q2, x2⟩ := hA3.get 2 _ rfl
    obtain ⟨q3, x3⟩ := hA3.get 3 _ rfl
    have i0 := (hIt.get 0 _ rfl).1
    have i1 := (hIt.get 1 _ rfl).1
    have hil := hIt.lt
    have hal := hA3.lt
    have HE := hidq (And.intro hA4 hE)
    clear hM3 hb3 hA3 hA4 hE hWr FIN HI HR HR2 hIt
    go_wp2
    exact ret_ans (A := ⟨true, pp, pv, 0⟩) Try.results119 HE.out.1 rfl rfl rfl HE.out.2
end Go.Proofs.Ytclcmabohpoaiaa

namespace Go.Proofs.Ytclcmabohpoaiaa.Hp
open Go Go.Sort
variable {α : Type} [Inhabited α] (lt : α → α → Bool)

def Child (c p : Nat) : Prop := c = 2 * p + 1 ∨ c = 2 * p + 2
/-- All parents from k on have no lesser child. -/
def Heap (d : Array α) (n k : Nat) : Prop := ∀ p c, k ≤ p → Child c p → c < n → lt d[c]! d[p]! = false
/-- The same but at i, whose parent is no greater than its children. -/
structure Down (d : Array α) (n k i : Nat) : Prop where
  ok : ∀ p c, k ≤ p → p ≠ i → Child c p → c < n → lt d[c]! d[p]! = false
  up : ∀ p c, k ≤ p → Child i p → Child c i → c < n → lt d[c]! d[p]! = false
  le : k ≤ i
/-- All but j against its parent. -/
structure Up (d : Array α) (n j : Nat) : Prop where
  ok : ∀ p c, c ≠ j → Child c p → c < n → lt d[c]! d[p]! = false
  up : ∀ p c, Child j p → Child c j → c < n → lt d[c]! d[p]! = false

variable {lt}
theorem asym {β : Type} {lt : β → β → Bool} (hS : SWO lt) {x y : β} (h : lt x y = true) : lt y x = false := by
  cases e : lt y x
  · rfl
  · have := hS.trans x y x h e; rw [hS.irrefl] at this; cases this

theorem Down.start {d : Array α} {n k : Nat} (h : Heap lt d n (k + 1)) : Down lt d n k k :=
  ⟨fun p c hp hne hc hn => h p c (by omega) hc hn, fun p c hp hc => by unfold Child at hc; omega, Nat.le_refl _⟩
theorem Down.done {d : Array α} {n k i : Nat} (h : Down lt d n k i) (hi : n ≤ 2 * i + 1) : Heap lt d n k := by
  intro p c hp hc hn
  by_cases e : p = i
  · subst e; unfold Child at hc; omega
  · exact h.ok p c hp e hc hn
/-- c is the lesser child. -/
structure Least (lt : α → α → Bool) (d : Array α) (n i c : Nat) : Prop where
  child : Child c i
  inn : c < n
  le : ∀ o, Child o i → o < n → lt d[o]! d[c]! = false
theorem Down.stop (hS : SWO lt) {d : Array α} {n k i c : Nat} (h : Down lt d n k i) (hc : Least lt d n i c) (hl : lt d[c]! d[i]! = false) : Heap lt d n k := by
  intro p o hp ho hn
  by_cases e : p = i
  · subst e; exact hS.ntrans _ _ _ (hc.le o ho hn) hl
  · exact h.ok p o hp e ho hn
theorem Down.step (hS : SWO lt) {d : Array α} {n k i c : Nat} (h : Down lt d n k i) (hc : Least lt d n i c) (hl : lt d[c]! d[i]! = true) (hn : n ≤ d.size) : Down lt (swp d i c) n k c := by
  have hci : c ≠ i := by have := hc.child; unfold Child at this; omega
  have hcn := hc.inn
  have hcc := hc.child
  have hin : i < n := by unfold Child at hcc; omega
  have e1 : (swp d i c)[i]! = d[c]! := swp_left d i c (by omega) (by omega)
  have e2 : (swp d i c)[c]! = d[i]! := swp_right d i c (by omega)
  have e3 : ∀ x, x ≠ i → x ≠ c → (swp d i c)[x]! = d[x]! := fun x h1 h2 => swp_other d i c x h1 h2
  refine ⟨fun p o hp hpc ho hon => ?_, fun p o hp hcp ho hon => ?_, ?_⟩
  · by_cases ei : p = i
    · subst ei
      by_cases eo : o = c
      · subst eo; rw [e1, e2]; exact asym hS hl
      · have : o ≠ p := by unfold Child at ho; omega
        rw [e1, e3 o this eo]; exact hc.le o ho hon
    · rw [e3 p ei hpc]
      by_cases eo : o = i
      · subst eo; rw [e1]; exact h.up p c hp ho hc.child hc.inn
      · by_cases eo2 : o = c
        · subst eo2; exfalso; unfold Child at ho hcc; omega
        · rw [e3 o eo eo2]; exact h.ok p o hp ei ho hon
  · have ep : p = i := by unfold Child at hcp hcc; omega
    subst ep
    have o1 : o ≠ p := by unfold Child at ho hcc; omega
    have o2 : o ≠ c := by unfold Child at ho; omega
    rw [e1, e3 o o1 o2]
    exact h.ok c o (by have := h.le; unfold Child at hcc; omega) hci ho hon
  · have := h.le; unfold Child at hcc; omega

theorem Up.start {d : Array α} {n : Nat} (h : Heap lt d n 0) (x : α) (hn : n = d.size) : Up lt (d.push x) (n + 1) n := by
  refine ⟨fun p c hc hcp hcn => ?_, fun p c hp hc hcn => by unfold Child at hc; omega⟩
  have h1 : c < d.size := by omega
  have h2 : p < d.size := by unfold Child at hcp; omega
  have e : ∀ i, i < d.size → (d.push x)[i]! = d[i]! := fun i hi => by
    rw [getElem!_pos (d.push x) i (by simp; omega), getElem!_pos d i hi, Array.getElem_push_lt hi]
  rw [e c h1, e p h2]
  exact h p c (Nat.zero_le _) hcp (by omega)
theorem Up.top {d : Array α} {n : Nat} (h : Up lt d n 0) : Heap lt d n 0 := fun p c _ hc hn => h.ok p c (by unfold Child at hc; omega) hc hn
theorem Up.stop {d : Array α} {n j i : Nat} (h : Up lt d n j) (hi : Child j i) (hl : lt d[j]! d[i]! = false) : Heap lt d n 0 := by
  intro p c _ hc hn
  by_cases e : c = j
  · subst e
    have : p = i := by unfold Child at hc hi; omega
    subst this; exact hl
  · exact h.ok p c e hc hn
theorem Up.step (hS : SWO lt) {d : Array α} {n j i : Nat} (h : Up lt d n j) (hi : Child j i) (hl : lt d[j]! d[i]! = true) (hj : j < n) (hn : n ≤ d.size) : Up lt (swp d i j) n i := by
  have hij : i ≠ j := by unfold Child at hi; omega
  have hil : i < n := by unfold Child at hi; omega
  have e1 : (swp d i j)[i]! = d[j]! := swp_left d i j (by omega) hij
  have e2 : (swp d i j)[j]! = d[i]! := swp_right d i j (by omega)
  have e3 : ∀ x, x ≠ i → x ≠ j → (swp d i j)[x]! = d[x]! := fun x h1 h2 => swp_other d i j x h1 h2
  refine ⟨fun p c hci hc hcn => ?_, fun p c hp hc hcn => ?_⟩
  · by_cases ej : c = j
    · subst ej
      have : p = i := by unfold Child at hc hi; omega
      subst this
      rw [e1, e2]; exact asym hS hl
    · rw [e3 c hci ej]
      by_cases ep : p = i
      · subst ep
        rw [e1]
        have hh := h.ok p c ej hc hcn
        cases e : lt d[c]! d[j]!
        · rfl
        · have := hS.trans _ _ _ e hl; rw [hh] at this; cases this
      · by_cases ep2 : p = j
        · subst ep2; rw [e2]; exact h.up i c hi hc hcn
        · rw [e3 p ep ep2]; exact h.ok p c ej hc hcn
  · have p1 : p ≠ i := by unfold Child at hp; omega
    have p2 : p ≠ j := by unfold Child at hp hi; omega
    rw [e3 p p1 p2]
    have hip := h.ok p i hij hp hil
    by_cases ej : c = j
    · subst ej; rw [e2]; exact hip
    · have c1 : c ≠ i := by unfold Child at hc; omega
      rw [e3 c c1 ej]
      exact hS.ntrans _ _ _ (h.ok i c ej hc hcn) hip

/-- The first one is least. -/
theorem Heap.first (hS : SWO lt) {d : Array α} {n : Nat} (h : Heap lt d n 0) : ∀ i, i < n → lt d[i]! d[0]! = false := by
  intro i
  induction i using Nat.strongRecOn with
  | ind i ih =>
    intro hi
    by_cases e : i = 0
    · subst e; exact hS.irrefl _
    · have hc : Child i ((i - 1) / 2) := by unfold Child; omega
      exact hS.ntrans _ _ _ (h _ _ (Nat.zero_le _) hc hi) (ih ((i - 1) / 2) (by omega) (by omega))
theorem Heap.mono {d : Array α} {n m k : Nat} (h : Heap lt d n k) (hm : m ≤ n) : Heap lt d m k := fun p c hp hc hn => h p c hp hc (by omega)
theorem Heap.none {d : Array α} {n k : Nat} (h : n ≤ 2 * k + 1) : Heap lt d n k := fun p c hp hc hn => by unfold Child at hc; omega
/-- After the first and the last one are exchanged. -/
theorem Heap.swapped {d : Array α} {n : Nat} (h : Heap lt d (n + 1) 0) : Heap lt (swp d 0 n) n 1 := by
  intro p c hp hc hcn
  have h1 : c ≠ 0 := by unfold Child at hc; omega
  rw [swp_other d 0 n c h1 (by omega), swp_other d 0 n p (by omega) (by unfold Child at hc; omega)]
  exact h p c (Nat.zero_le _) hc (by omega)

theorem swp_perm (d : Array α) (i j : Nat) (hi : i < d.size) (hj : j < d.size) : (swp d i j).toList.Perm d.toList := by
  have := swp_permIn d 0 d.size i j (Nat.zero_le _) hi (Nat.zero_le _) hj (Nat.le_refl _)
  have h2 := this.2.2
  have e : (swp d i j).extract 0 d.size = swp d i j := by rw [← size_swp d i j]; exact Array.extract_size
  rw [e, Array.extract_size] at h2
  exact h2
end Go.Proofs.Ytclcmabohpoaiaa.Hp

namespace Go.Proofs.Ytclcmabohpoaiaa
open Go.RowKit Go.Sort

theorem cisNaNi_any (x : Int) (w : World) : Calls Try.prog 91 #[.int .i64 x] w fun e w' => e = .returned (.bool false) ∧ w' = w := by
  go_enter Try.func91, Try.ntmps91
  go_wp2
  go_ret
  exact ⟨rfl, rfl⟩
theorem comparei_any (x y : Int) (w : World) : Calls Try.prog 81 #[.int .i64 x, .int .i64 y] w fun e w' => e = .returned (.int .i64 (cmpI x y)) ∧ w' = w := by
  rcases Int.lt_trichotomy x y with h | h | h
  · rw [cmpI_lt h]
    go_enter Try.func81, Try.ntmps81
    go_wp2_with (go_at_call 91; refine (cisNaNi_any _ _).mono ?_; rintro e w' ⟨rfl, rfl⟩)
    go_ret
    exact ⟨rfl, rfl⟩
  · rw [cmpI_eq h]
    subst h
    go_enter Try.func81, Try.ntmps81
    go_wp2_with (go_at_call 91; refine (cisNaNi_any _ _).mono ?_; rintro e w' ⟨rfl, rfl⟩)
    go_ret
    exact ⟨rfl, rfl⟩
  · rw [cmpI_gt h]
    have h' : ¬ x < y := by omega
    go_enter Try.func81, Try.ntmps81
    go_wp2_with (go_at_call 91; refine (cisNaNi_any _ _).mono ?_; rintro e w' ⟨rfl, rfl⟩)
    go_ret
    exact ⟨rfl, rfl⟩


/-- How two items stand, by bits. -/
def cmpN (m : Nat) (a : Int) (n : Nat) (b : Int) : Int := if cmpI (key m) (key n) = 0 then cmpI a b else cmpI (key m) (key n)
theorem cmpN_same {m n : Nat} (h : cmpI (key m) (key n) = 0) (a b : Int) : cmpN m a n b = cmpI a b := if_pos h
theorem cmpN_other {m n : Nat} (h : ¬ cmpI (key m) (key n) = 0) (a b : Int) : cmpN m a n b = cmpI (key m) (key n) := if_neg h

/-- An item in a box. -/
abbrev boxI (m : Nat) (a : Int) : Obj := .cells #[.float .f64 m, .int .i64 a] 35

theorem icmp_any (m n : Nat) (a b : Int) (w : World) (hm : m < 18446744073709551616) (hn : n < 18446744073709551616) :
    Calls Try.prog 70 #[.agg #[.float .f64 m, .int .i64 a], .agg #[.float .f64 n, .int .i64 b]] w fun e w' => e = .returned (.int .i64 (cmpN m a n b)) ∧ w' = (w.alloc (boxI m a)).alloc (boxI n b) := by
  have hC := fun w => cmp_any m n w hm hn
  obtain ⟨c, hc⟩ : ∃ c, cmpI (key m) (key n) = c := ⟨_, rfl⟩
  by_cases h0 : c = 0
  · rw [cmpN_same (by rw [hc]; exact h0)]
    subst h0
    rw [hc] at hC
    clear hc hm hn
    go_enter Try.func70, Try.ntmps70
    go_wp2_with (first
      | (go_at_call 80; refine (hC _).mono ?_; rintro e w1 ⟨rfl, hw1⟩; replace hw1 := hw1.symm; subst hw1)
      | (go_at_call 81; refine (comparei_any _ _ _).mono ?_; rintro e w1 ⟨rfl, hw1⟩; replace hw1 := hw1.symm; subst hw1))
    go_ret
    exact ⟨rfl, rfl⟩
  · rw [cmpN_other (by rw [hc]; exact h0), hc]
    have hb : (c != 0) = true := by simpa using h0
    rw [hc] at hC
    clear hc hm hn
    go_enter Try.func70, Try.ntmps70
    go_wp2_with (first
      | (go_at_call 80; refine (hC _).mono ?_; rintro e w1 ⟨rfl, hw1⟩; replace hw1 := hw1.symm; subst hw1))
    go_ret
    exact ⟨rfl, rfl⟩

theorem icanon_any (m : Nat) (a : Int) (w : World) :
    Calls Try.prog 59 #[.agg #[.float .f64 m, .int .i64 a]] w fun e w' => e = .returned (.agg #[.float .f64 (cbits m), .int .i64 a]) ∧ Below w.heap.size w w' := by
  have hsf := run_store_float (P := Try.prog)
  go_enter Try.func59, Try.ntmps59
  go_wp2_with (go_at_call 67; refine (canon_any _ _).mono ?_; rintro e w1 ⟨rfl, hw1⟩; replace hw1 := hw1.symm; subst hw1)
  exact bodyPost_ret (v := .agg #[.float .f64 (cbits m), .int .i64 a]) (by simp [results, Try.results59, go_sem]) rfl ⟨rfl, ((Below.refl _ _).alloc (Nat.le_refl _) _).alloc (by simp) _⟩
end Go.Proofs.Ytclcmabohpoaiaa

namespace Go.Proofs.Ytclcmabohpoaiaa
open Go.RowKit Go.Sort

/-- A canonical item: none is that of bits 0 and value 0. -/
abbrev KI := Option { p : Nat × Int // (p.1 < 18446744073709551616 ∧ cbits p.1 = p.1) ∧ p ≠ (0, 0) }
def KI.b (x : KI) : Nat := match x with | none => 0 | some p => p.1.1
def KI.v (x : KI) : Int := match x with | none => 0 | some p => p.1.2
theorem KI.ok (x : KI) : x.b < 18446744073709551616 ∧ cbits x.b = x.b := by
  match x with
  | none => exact ⟨by decide, by decide⟩
  | some p => exact p.2.1
theorem KI.ext' {x y : KI} (hb : x.b = y.b) (hv : x.v = y.v) : x = y := by
  match x, y with
  | none, none => rfl
  | none, some q => exact absurd (Prod.ext hb.symm hv.symm) q.2.2
  | some p, none => exact absurd (Prod.ext hb hv) p.2.2
  | some p, some q => exact congrArg some (Subtype.ext (Prod.ext hb hv))
def KI.of (b : Nat) (v : Int) (ok : b < 18446744073709551616 ∧ cbits b = b) : KI := if h : (b, v) = (0, 0) then none else some ⟨(b, v), ok, h⟩
theorem KI.of_b (b : Nat) (v : Int) (ok : b < 18446744073709551616 ∧ cbits b = b) : (KI.of b v ok).b = b := by
  unfold KI.of
  split
  case isTrue h => injection h with h1 h2; exact h1.symm
  case isFalse h => rfl
theorem KI.of_v (b : Nat) (v : Int) (ok : b < 18446744073709551616 ∧ cbits b = b) : (KI.of b v ok).v = v := by
  unfold KI.of
  split
  case isTrue h => injection h with h1 h2; exact h2.symm
  case isFalse h => rfl
def KI.lt (x y : KI) : Bool := decide (cmpN x.b x.v y.b y.v < 0)
theorem key_canon {m n : Nat} (hm : m < 18446744073709551616 ∧ cbits m = m) (hn : n < 18446744073709551616 ∧ cbits n = n) (h : key m = key n) : m = n := by
  unfold key keyI ni at h
  rw [hm.2, hn.2] at h
  split at h <;> split at h <;> omega
theorem cmpN_lt (m n : Nat) (a b : Int) : cmpN m a n b < 0 ↔ key m < key n ∨ (key m = key n ∧ a < b) := by
  unfold cmpN
  have h1 := cmpI_neg_iff (key m) (key n)
  have h2 := cmpI_zero (key m) (key n)
  have h3 := cmpI_neg_iff a b
  generalize cmpI (key m) (key n) = c at *
  generalize key m = p at *
  generalize key n = q at *
  split
  · rw [h3]
    constructor
    · intro h; exact .inr ⟨h2.1 ‹_›, h⟩
    · rintro (h | h)
      · omega
      · exact h.2
  · rw [h1]
    constructor
    · intro h; exact .inl h
    · rintro (h | h)
      · exact h
      · exact absurd (h2.2 h.1) ‹_›
theorem KI.lt_iff (x y : KI) : x.lt y = true ↔ key x.b < key y.b ∨ (key x.b = key y.b ∧ x.v < y.v) := by
  unfold KI.lt; rw [decide_eq_true_eq, cmpN_lt]
theorem KI.lt_false (x y : KI) : x.lt y = false ↔ ¬ (key x.b < key y.b ∨ (key x.b = key y.b ∧ x.v < y.v)) := by
  rw [← KI.lt_iff]; cases x.lt y <;> simp
theorem KI.swo : SWO KI.lt where
  irrefl x := by rw [KI.lt_false]; omega
  trans x y z h1 h2 := by
    rw [KI.lt_iff] at *
    generalize key x.b = p at *; generalize key y.b = q at *; generalize key z.b = r at *
    omega
  ntrans x y z h1 h2 := by
    rw [KI.lt_false] at *
    generalize key x.b = p at *; generalize key y.b = q at *; generalize key z.b = r at *
    omega
theorem KI.total (x y : KI) (h1 : x.lt y = false) (h2 : y.lt x = false) : x = y := by
  rw [KI.lt_false] at h1 h2
  have hk : key x.b = key y.b := by
    generalize key x.b = p at *; generalize key y.b = q at *; omega
  have hb := key_canon x.ok y.ok hk
  have hv : x.v = y.v := by
    rw [hk] at h1 h2; omega
  exact KI.ext' hb hv

theorem cbits_idem (n : Nat) : cbits (cbits n) = cbits n := by
  cases h : nanB n
  · rw [cbits_num h, cbits_num h]
  · rw [cbits_nan h]; decide
/-- Made canonical. -/
def mkKI (p : Nat) (v : Int) : KI := if h : p < 18446744073709551616 then KI.of (cbits p) v ⟨cbits_lt h, cbits_idem p⟩ else none
theorem mkKI_b {p : Nat} (h : p < 18446744073709551616) (v : Int) : (mkKI p v).b = cbits p := by unfold mkKI; rw [dif_pos h]; exact KI.of_b _ _ _
theorem mkKI_v {p : Nat} (h : p < 18446744073709551616) (v : Int) : (mkKI p v).v = v := by unfold mkKI; rw [dif_pos h]; exact KI.of_v _ _ _
theorem mkKI_self (x : KI) : mkKI x.b x.v = x := by
  have h1 := mkKI_b x.ok.1 x.v
  rw [x.ok.2] at h1
  exact KI.ext' h1 (mkKI_v x.ok.1 x.v)
def kiOf (P V : Nat → Int) (i : Nat) : KI := mkKI (nf (P i)) (V i)
end Go.Proofs.Ytclcmabohpoaiaa

namespace Go.Proofs.Ytclcmabohpoaiaa
open Go.RowKit Go.Sort

/-- Block g holds a row of items with room for cap. -/
structure Row (w : World) (g cap : Nat) (d : Array KI) : Prop where
  lt : g < w.heap.size
  le : d.size ≤ cap
  max : d.size ≤ 1099511627776
  cmax : cap ≤ maxLen
  flt : ∀ i, i < d.size → w.cell? ⟨g, i * 2, none⟩ = some (.float .f64 d[i]!.b)
  val : ∀ i, i < d.size → w.cell? ⟨g, i * 2 + 1, none⟩ = some (.int .i64 d[i]!.v)
  there : ∀ j, j < cap * 2 → (w.cell? ⟨g, j, none⟩).isSome = true ∧ w.frozen? ⟨g, j, none⟩ = false

theorem less_any (g cap i j : Nat) (d : Array KI) (w : World) (h : Row w g cap d) (hi : i < d.size) (hj : j < d.size) :
    Calls Try.prog 125 #[.slice (some ⟨g, 0, none⟩) d.size cap, .int .i64 (i : Int), .int .i64 (j : Int)] w fun e w' => e = .returned (.bool (d[i]!.lt d[j]!)) ∧ Below w.heap.size w w' := by
  have f1 := h.flt i hi
  have f2 := h.flt j hj
  have v1 := h.val i hi
  have v2 := h.val j hj
  generalize d[i]! = x at *
  generalize d[j]! = y at *
  have hN := h.max
  have hle := h.le
  obtain ⟨n, hn⟩ : ∃ n, d.size = n := ⟨_, rfl⟩
  rw [hn] at hi hj hle hN ⊢
  have i1 : (i : Int) < (n : Int) := by omega
  have j1 : (j : Int) < (n : Int) := by omega
  have hC := fun w => icmp_any x.b y.b x.v y.v w x.ok.1 y.ok.1
  obtain ⟨c, hc⟩ : ∃ c, cmpN x.b x.v y.b y.v = c := ⟨_, rfl⟩
  rw [hc] at hC
  have hl : x.lt y = decide (c < 0) := by unfold KI.lt; rw [hc]
  rw [hl]
  clear hl hc hn h
  go_enter Try.func125, Try.ntmps125
  go_wp2
  go_region_with (go_at_call 70; refine (hC _).mono ?_; rintro e w1 ⟨rfl, rfl⟩)
  all_goals go_wp2
  all_goals go_ret
  all_goals exact ⟨rfl, (((Below.refl _ _).alloc (Nat.le_refl _) _).alloc (by simp) _).drew⟩

theorem Row.but {S : Nat → Prop} {w w' : World} {g cap : Nat} {d : Array KI} (h : Row w g cap d) (hb : But S w w') (hS : ¬ S g) : Row w' g cap d :=
  ⟨Nat.lt_of_lt_of_le h.lt hb.size, h.le, h.max, h.cmax, fun i hi => by rw [hb.cell (p := ⟨g, i * 2, none⟩) h.lt hS]; exact h.flt i hi,
   fun i hi => by rw [hb.cell (p := ⟨g, i * 2 + 1, none⟩) h.lt hS]; exact h.val i hi,
   fun j hj => by rw [hb.cell (p := ⟨g, j, none⟩) h.lt hS, hb.frozen (p := ⟨g, j, none⟩) h.lt hS]; exact h.there j hj⟩

/-- One item is laid over another one. -/
theorem Row.set {w : World} {g cap : Nat} {d : Array KI} (h : Row w g cap d) (i : Nat) (hi : i < d.size) (x : KI) :
    Row ((w.setCell ⟨g, i * 2, none⟩ (.float .f64 x.b)).setCell ⟨g, i * 2 + 1, none⟩ (.int .i64 x.v)) g cap (d.setIfInBounds i x) := by
  have s1 : (w.cell? ⟨g, i * 2, none⟩).isSome = true := by rw [h.flt i hi]; rfl
  have hne : ∀ a b : Nat, a ≠ b → (⟨g, a, none⟩ : Addr) ≠ ⟨g, b, none⟩ := fun a b hab e => by injection e; omega
  have s2 : ((w.setCell ⟨g, i * 2, none⟩ (.float .f64 x.b)).cell? ⟨g, i * 2 + 1, none⟩).isSome = true := by
    rw [World.cell?_setCell_other _ _ _ _ (hne _ _ (by omega)), h.val i hi]; rfl
  have gx : ∀ k, k < d.size → (d.setIfInBounds i x)[k]! = if k = i then x else d[k]! := fun k hk => by
    rw [getElem!_pos (d.setIfInBounds i x) k (by simpa using hk), getElem!_pos d k hk, Array.getElem_setIfInBounds (by simpa using hk)]
    by_cases e : i = k
    · subst e; simp
    · rw [if_neg e, if_neg (Ne.symm e)]
  refine ⟨by rw [World.size_setCell, World.size_setCell]; exact h.lt, by simpa using h.le, by simpa using h.max, h.cmax, fun k hk => ?_, fun k hk => ?_, fun j hj => ⟨?_, ?_⟩⟩
  · have hk' : k < d.size := by simpa using hk
    rw [gx k hk', World.cell?_setCell_other _ _ _ _ (hne _ _ (by omega))]
    by_cases e : k = i
    · subst e; rw [if_pos rfl, World.cell?_setCell_same' _ _ _ s1]
    · rw [if_neg e, World.cell?_setCell_other _ _ _ _ (hne _ _ (by omega))]; exact h.flt k hk'
  · have hk' : k < d.size := by simpa using hk
    rw [gx k hk']
    by_cases e : k = i
    · subst e; rw [if_pos rfl, World.cell?_setCell_same' _ _ _ s2]
    · rw [if_neg e, World.cell?_setCell_other _ _ _ _ (hne _ _ (by omega)), World.cell?_setCell_other _ _ _ _ (hne _ _ (by omega))]; exact h.val k hk'
  · by_cases e2 : j = i * 2 + 1
    · subst e2; rw [World.cell?_setCell_same' _ _ _ s2]; rfl
    · rw [World.cell?_setCell_other _ _ _ _ (hne _ _ (Ne.symm e2))]
      by_cases e1 : j = i * 2
      · subst e1; rw [World.cell?_setCell_same' _ _ _ s1]; rfl
      · rw [World.cell?_setCell_other _ _ _ _ (hne _ _ (Ne.symm e1))]; exact (h.there j hj).1
  · rw [World.frozen?_setCell, World.frozen?_setCell]; exact (h.there j hj).2

theorem but4 (w : World) (g a b c e : Nat) (v1 v2 v3 v4 : Value) : But (fun k => k = g) w (((((w.setCell ⟨g, a, none⟩ v1).setCell ⟨g, b, none⟩ v2).setCell ⟨g, c, none⟩ v3).setCell ⟨g, e, none⟩ v4).drew) :=
  (((((But.refl (fun k => k = g) w).set1 g a rfl v1).set1 g b rfl v2).set1 g c rfl v3).set1 g e rfl v4).drew

theorem swap_any (I J : Int) (g cap i j : Nat) (d : Array KI) (w : World) (hI : I = (i : Int)) (hJ : J = (j : Int)) (h : Row w g cap d) (hi : i < d.size) (hj : j < d.size) (hij : i ≠ j) :
    Calls Try.prog 126 #[.slice (some ⟨g, 0, none⟩) d.size cap, .int .i64 I, .int .i64 J] w fun e w' => e = .returned (.tuple #[]) ∧ Row w' g cap (swp d i j) ∧ But (fun k => k = g) w w' := by
  subst hI; subst hJ
  have hend : Row (((((w.setCell ⟨g, i * 2, none⟩ (.float .f64 d[j]!.b)).setCell ⟨g, i * 2 + 1, none⟩ (.int .i64 d[j]!.v)).setCell ⟨g, j * 2, none⟩ (.float .f64 d[i]!.b)).setCell ⟨g, j * 2 + 1, none⟩ (.int .i64 d[i]!.v)).drew) g cap (swp d i j) := by
    have h2 := (h.set i hi d[j]!).set j (by simpa using hj) d[i]!
    exact h2.but (S := fun _ => False) (But.refl _ _).drew id
  have f1 := h.flt i hi
  have f2 := h.flt j hj
  have v1 := h.val i hi
  have v2 := h.val j hj
  generalize d[i]! = x at *
  generalize d[j]! = y at *
  have hN := h.max
  have hle := h.le
  have z1 := (h.there (i * 2) (by omega)).2
  have z2 := (h.there (i * 2 + 1) (by omega)).2
  have z3 := (h.there (j * 2) (by omega)).2
  have z4 := (h.there (j * 2 + 1) (by omega)).2
  clear h
  generalize swp d i j = d2 at hend ⊢
  generalize d.size = n at *
  have i1 : (i : Int) < (n : Int) := by omega
  have j1 : (j : Int) < (n : Int) := by omega
  have hsf := run_store_float (P := Try.prog)
  have n1 : ¬ i * 2 = j * 2 := by omega
  have n2 : ¬ i * 2 = j * 2 + 1 := by omega
  have n3 : ¬ i * 2 + 1 = j * 2 := by omega
  have n4 : ¬ i * 2 + 1 = j * 2 + 1 := by omega
  go_enter Try.func126, Try.ntmps126
  go_wp2
  go_region
  go_wp2
  go_end0
  exact ⟨rfl, hend, but4 _ _ _ _ _ _ _ _ _ _⟩
end Go.Proofs.Ytclcmabohpoaiaa

namespace Go.Proofs.Ytclcmabohpoaiaa
open Go.RowKit Go.Sort

theorem via (b : Nat) (name : String) (f : Nat) (w : World) (v : Value) (h : w.cell? ⟨b, 0, none⟩ = some v)
    (hm : (method 279 136 (.pointer (some ⟨b, 0, none⟩)) name).run Try.prog w = (Sem.load .plain ⟨b, 0, none⟩ fun v => pure (f, v)).run Try.prog w) :
    (method 279 136 (.pointer (some ⟨b, 0, none⟩)) name).run Try.prog w = .ok (f, v) w := by
  rw [hm]
  simp only [Sem.run, h]
  rfl
theorem mLen (b : Nat) (w : World) (v : Value) (h : w.cell? ⟨b, 0, none⟩ = some v) : (method 279 136 (.pointer (some ⟨b, 0, none⟩)) "Len").run Try.prog w = .ok (124, v) w :=
  via b "Len" 124 w v h (by kernel_rfl)
theorem mLess (b : Nat) (w : World) (v : Value) (h : w.cell? ⟨b, 0, none⟩ = some v) : (method 279 136 (.pointer (some ⟨b, 0, none⟩)) "Less").run Try.prog w = .ok (125, v) w :=
  via b "Less" 125 w v h (by kernel_rfl)
theorem mSwap (b : Nat) (w : World) (v : Value) (h : w.cell? ⟨b, 0, none⟩ = some v) : (method 279 136 (.pointer (some ⟨b, 0, none⟩)) "Swap").run Try.prog w = .ok (126, v) w :=
  via b "Swap" 126 w v h (by kernel_rfl)
theorem mPush (b : Nat) (w : World) : (method 279 136 (.pointer (some ⟨b, 0, none⟩)) "Push").run Try.prog w = .ok (128, .pointer (some ⟨b, 0, none⟩)) w := by kernel_rfl
theorem mPop (b : Nat) (w : World) : (method 279 136 (.pointer (some ⟨b, 0, none⟩)) "Pop").run Try.prog w = .ok (127, .pointer (some ⟨b, 0, none⟩)) w := by kernel_rfl
end Go.Proofs.Ytclcmabohpoaiaa
