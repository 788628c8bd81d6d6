/-
  Layer 9: what a queue's steps do; the cell of the slot that is next: contract.
  Layer 9: an end says the segment: contract.
  Layer 9: the next slot is looked at: contract.
  Layer 9: an end moves on; a slot is written: contracts.
  Layer 9: an Enq's step: contract.
  A pile of one item, and its first one: contract.
-/
import Derived.Test.YtbcmilfajeanbaaGreatKf9aAll
import Derived.Test.YtbcmilfajeanbaaGreatTail
import Derived.Test.YtbcmilfajeanbaaGreatPileQAll
import Derived.Test.YtbcmilfajeanbaaGreatWirePl0All
import Derived.StillTailTactics
import Derived.Test.YtbcmilfajeanbaaGreatFlat4All
namespace Go.Proofs.YtbcmilfajeanbaaGreat
open Go.RowKit Go.Sort

/-- The cell of the slot that is next. -/
def kAt (k : Int) (F : Fr) : Int := if F.seg < 0 ∨ 1000 < F.seg then -1 else kslot k F.seg (into (into F.d0 k + F.seen) k)
/-- An end says the segment. -/
def kBegin (M : Mem) (F : Fr) (e : Int) : Fr := { F with at_ := e, c0 := M.look e, seg := (M.look e).n, seen := 0, empty := false }
/-- The next slot is looked at. -/
def kLook (k want : Int) (M : Mem) (F : Fr) : Fr :=
  if (M.look (kAt k F)).n = want then { F with empty := F.empty || decide ((M.look (kAt k F)).n = 0), c1 := M.look (kAt k F), pc := 3 }
  else { F with empty := F.empty || decide ((M.look (kAt k F)).n = 0), seen := F.seen + 1, pc := if F.seen + 1 = k then 4 else F.pc }
/-- A slot is written. -/
def kWrite (k x : Int) (L : List It) (p : Nat) (v : Int) (M : Mem) (F : Fr) : Mem × Fr × Ans × Bool :=
  (M.write (kAt k F) F.c1.ver x L, { F with pc := 0 }, if M.can (kAt k F) F.c1.ver = true then ⟨true, p, v, 0⟩ else Ans.zero, M.can (kAt k F) F.c1.ver)
/-- An end moves on. -/
def kMove (M : Mem) (F : Fr) : Mem × Fr × Ans × Bool := (M.write F.at_ F.c0.ver (F.seg + 1) [], { F with pc := 0 }, Ans.zero, false)

def kat3R (nb fb : Nat) (F : Fr) (k u j z : Int) : List (Value → World → Prop) :=
  [fun v _ => v = .agg #[.int .i64 k],
   fun v _ => v = .pointer (some ⟨fb, 0, none⟩),
   fun v _ => v = .pointer (some ⟨fb, 0, none⟩),
   fun v _ => v = .pointer (some ⟨fb, 8, none⟩),
   fun v _ => v = .int .i64 F.seg,
   fun v _ => v = .pointer (some ⟨fb, 0, none⟩),
   fun v _ => v = .pointer (some ⟨fb, 0, none⟩),
   fun v _ => v = .pointer (some ⟨fb, 0, none⟩),
   fun v _ => v = .pointer (some ⟨fb, 3, none⟩),
   fun v _ => v = .pointer (some ⟨fb, 3, none⟩),
   fun v _ => v = .int .i64 F.d0,
   fun v _ => v = .pointer (some ⟨nb, 0, none⟩),
   fun v _ => v = .int .i64 k,
   fun v _ => v = .int .i64 u,
   fun v _ => v = .pointer (some ⟨fb, 0, none⟩),
   fun v _ => v = .pointer (some ⟨fb, 0, none⟩),
   fun v _ => v = .pointer (some ⟨fb, 7, none⟩),
   fun v _ => v = .int .i64 F.seen,
   fun v _ => v = .int .i64 (u + F.seen),
   fun v _ => v = .pointer (some ⟨nb, 0, none⟩),
   fun v _ => v = .int .i64 k,
   fun v _ => v = .int .i64 j,
   fun v _ => v = .int .i64 z]
theorem kat3R_kept (nb fb : Nat) (F : Fr) (k u j z : Int) : Reg.AllKept Reg.Keeps (kat3R nb fb F k u j z) :=
  ⟨(fun _ _ _ _ h => h), (fun _ _ _ _ h => h), (fun _ _ _ _ h => h), (fun _ _ _ _ h => h), (fun _ _ _ _ h => h), (fun _ _ _ _ h => h), (fun _ _ _ _ h => h), (fun _ _ _ _ h => h), (fun _ _ _ _ h => h), (fun _ _ _ _ h => h), (fun _ _ _ _ h => h), (fun _ _ _ _ h => h), (fun _ _ _ _ h => h), (fun _ _ _ _ h => h), (fun _ _ _ _ h => h), (fun _ _ _ _ h => h), (fun _ _ _ _ h => h), (fun _ _ _ _ h => h), (fun _ _ _ _ h => h), (fun _ _ _ _ h => h), (fun _ _ _ _ h => h), (fun _ _ _ _ h => h), (fun _ _ _ _ h => h), trivial⟩

theorem kAt_in {k : Int} {F : Fr} (h : 0 ≤ F.seg ∧ F.seg ≤ 1000) : kAt k F = kslot k F.seg (into (into F.d0 k + F.seen) k) := by
  unfold kAt; rw [if_neg (by omega)]
theorem kAt_out {k : Int} {F : Fr} (h : F.seg < 0 ∨ 1000 < F.seg) : kAt k F = -1 := by
  unfold kAt; rw [if_pos h]

set_option maxRecDepth 20000 in
set_option maxHeartbeats 4000000 in
theorem kat_any (k : Int) (w : World) (fb : Nat) (F : Fr) (hk : 1 ≤ k ∧ k ≤ 16) (hfl : fb < w.heap.size) (c3 : w.cell? ⟨fb, 3, none⟩ = some (.int .i64 F.d0)) (c7 : w.cell? ⟨fb, 7, none⟩ = some (.int .i64 F.seen)) (c8 : w.cell? ⟨fb, 8, none⟩ = some (.int .i64 F.seg)) (hs : 0 ≤ F.seen ∧ F.seen ≤ 100) :
    Calls Tryz.prog 189 #[.agg #[.int .i64 k], .pointer (some ⟨fb, 0, none⟩)] w fun e w' => e = .returned (.int .i64 (kAt k F)) ∧ Below w.heap.size w w' := by
  obtain ⟨nb, hnb⟩ : ∃ nb, w.heap.size = nb := ⟨_, rfl⟩
  obtain ⟨W1, hW1⟩ : ∃ W1, w.alloc (.cells #[.int .i64 k] 151) = W1 := ⟨_, rfl⟩
  have hB := BoxAt.new w [.int .i64 k] 151
  rw [show w.alloc (.cells [.int .i64 k].toArray 151) = W1 from hW1, hnb] at hB
  have hb1 : Below w.heap.size w W1 := by rw [← hW1]; exact (Below.refl _ _).alloc (Nat.le_refl _) _
  have d3 := (hb1.cell (p := ⟨fb, 3, none⟩) hfl).trans c3
  have d7 := (hb1.cell (p := ⟨fb, 7, none⟩) hfl).trans c7
  have d8 := (hb1.cell (p := ⟨fb, 8, none⟩) hfl).trans c8
  have hfl1 : fb < W1.heap.size := Nat.lt_of_lt_of_le hfl hb1.size
  have r0 := (hB.get 0 _ rfl).1
  have hrl := hB.lt
  by_cases h0 : F.seg < 0
  · rw [kAt_out (.inl h0)]
    have HB := hidq hb1
    clear hB hb1 d3 d7 c3 c7 c8 hs hk
    go_enter Tryz.func189, Tryz.ntmps189
    go_wp2_with fail
    go_ret
    exact ⟨rfl, HB.out⟩
  · have t0 : decide (F.seg < 0) = false := decide_eq_false h0
    by_cases h1 : 1000 < F.seg
    · rw [kAt_out (.inr h1)]
      have HB := hidq hb1
      clear hB hb1 d3 d7 c3 c7 c8 hs hk h0
      go_enter Tryz.func189, Tryz.ntmps189
      go_wp2_with fail
      go_ret
      exact ⟨rfl, HB.out⟩
    · have t1 : decide (1000 < F.seg) = false := decide_eq_false h1
      rw [kAt_in (by omega)]
      have hi := into_rng (d := F.d0) (n := k) hk.1
      have hI1 := hidq (fun W => into_any F.d0 k W (by omega))
      obtain ⟨u, hu⟩ : ∃ u, into F.d0 k = u := ⟨_, rfl⟩
      rw [hu] at hI1 hi ⊢
      have hj := into_rng (d := u + F.seen) (n := k) hk.1
      have hI2 := hidq (fun W => into_any (u + F.seen) k W (by omega))
      obtain ⟨j, hj2⟩ : ∃ j, into (u + F.seen) k = j := ⟨_, rfl⟩
      rw [hj2] at hI2 hj ⊢
      have hSl := hidq (fun W => kslot_any k F.seg j W hk (by omega) (by omega))
      obtain ⟨z, hz⟩ : ∃ z, kslot k F.seg j = z := ⟨_, rfl⟩
      rw [hz] at hSl ⊢
      have FC := hidq (fun W (hW : Below W1.heap.size W1 W) => And.intro ((hW.cell (p := ⟨fb, 3, none⟩) hfl1).trans d3) (And.intro ((hW.cell (p := ⟨fb, 7, none⟩) hfl1).trans d7) (And.intro ((hW.cell (p := ⟨fb, 8, none⟩) hfl1).trans d8) ((hB.below hW).get 0 _ rfl).1)))
      have HB := hidq hb1
      have hrefl : ∀ w : World, Reg.Keeps w w := Reg.Keeps.refl
      have hub : 0 ≤ u + F.seen ∧ u + F.seen ≤ 1000 := by omega
      obtain ⟨hub0, hub1⟩ := hub
      clear hB hb1 d3 d7 c3 c7 c8 hk h0 h1 hi hj hu hj2 hz hs
      go_enter Tryz.func189, Tryz.ntmps189
      go_wp2_with fail
      have hrefl : ∀ w : World, Reg.Keeps w w := Reg.Keeps.refl
      refine Reg.wp_region_props_tail 23 (Reg.ofList (kat3R nb fb F k u j z)) Reg.Keeps (fun _ w => Reg.Keeps W1 w) (by kernel_rfl) (by kernel_rfl) (by kernel_rfl) (Reg.AllKept.at _ (kat3R_kept nb fb F k u j z)) hrefl (Reg.Keeps.drewN (Reg.Keeps.refl _) 1) ⟨?_, ?_, ?_, ?_, ?_, ?_, ?_, ?_, ?_, ?_, ?_, ?_, ?_, ?_, ?_, ?_, ?_, ?_, ?_, ?_, ?_, ?_, ?_, trivial⟩ ?_
      · refine Reg.StepAt.plain (i := 0) rfl ?_
        intro L ev w hI hk hp hA
        have e2 : ev (.tmp 2) = .pointer (some ⟨nb, 0, none⟩) := hA.oldNone 2 (by kernel_rfl)
        have hcc := hA.const
        clear hA hp
        obtain ⟨f3, f7, f8, m0⟩ := FC.out w hI
        refine Reg.out_value (v := .agg #[.int .i64 k]) ?_ ⟨rfl, hrefl _, hI⟩
        go_simp
      · refine Reg.StepAt.plain (i := 1) rfl ?_
        intro L ev w hI hk hp hA
        have e1 : ev (.tmp 1) = .pointer (some ⟨fb, 0, none⟩) := hA.oldNone 1 (by kernel_rfl)
        have hcc := hA.const
        clear hA hp
        refine Reg.out_value (v := .pointer (some ⟨fb, 0, none⟩)) ?_ ⟨rfl, hrefl _, hI⟩
        go_simp
      · refine Reg.StepAt.plain (i := 2) rfl ?_
        intro L ev w hI hk hp hA
        have e18 : ev (.tmp 18) = .pointer (some ⟨fb, 0, none⟩) := hA.val 1 _ 18 rfl (hp ⟨1, .data⟩ (by simp) rfl) rfl
        have hcc := hA.const
        clear hA hp
        refine Reg.out_value (v := .pointer (some ⟨fb, 0, none⟩)) ?_ ⟨rfl, hrefl _, hI⟩
        go_simp
      · refine Reg.StepAt.plain (i := 3) rfl ?_
        intro L ev w hI hk hp hA
        have e19 : ev (.tmp 19) = .pointer (some ⟨fb, 0, none⟩) := hA.val 2 _ 19 rfl (hp ⟨2, .data⟩ (by simp) rfl) rfl
        have hcc := hA.const
        clear hA hp
        refine Reg.out_value (v := .pointer (some ⟨fb, 8, none⟩)) ?_ ⟨rfl, hrefl _, hI⟩
        go_simp
      · refine Reg.StepAt.plain (i := 4) rfl ?_
        intro L ev w hI hk hp hA
        have e20 : ev (.tmp 20) = .pointer (some ⟨fb, 8, none⟩) := hA.val 3 _ 20 rfl (hp ⟨3, .data⟩ (by simp) rfl) rfl
        have hcc := hA.const
        clear hA hp
        obtain ⟨f3, f7, f8, m0⟩ := FC.out w hI
        refine Reg.out_value (v := .int .i64 F.seg) ?_ ⟨rfl, hrefl _, hI⟩
        go_simp
      · refine Reg.StepAt.plain (i := 5) rfl ?_
        intro L ev w hI hk hp hA
        have e1 : ev (.tmp 1) = .pointer (some ⟨fb, 0, none⟩) := hA.oldNone 1 (by kernel_rfl)
        have hcc := hA.const
        clear hA hp
        refine Reg.out_value (v := .pointer (some ⟨fb, 0, none⟩)) ?_ ⟨rfl, hrefl _, hI⟩
        go_simp
      · refine Reg.StepAt.plain (i := 6) rfl ?_
        intro L ev w hI hk hp hA
        have e22 : ev (.tmp 22) = .pointer (some ⟨fb, 0, none⟩) := hA.val 5 _ 22 rfl (hp ⟨5, .data⟩ (by simp) rfl) rfl
        have hcc := hA.const
        clear hA hp
        refine Reg.out_value (v := .pointer (some ⟨fb, 0, none⟩)) ?_ ⟨rfl, hrefl _, hI⟩
        go_simp
      · refine Reg.StepAt.plain (i := 7) rfl ?_
        intro L ev w hI hk hp hA
        have e23 : ev (.tmp 23) = .pointer (some ⟨fb, 0, none⟩) := hA.val 6 _ 23 rfl (hp ⟨6, .data⟩ (by simp) rfl) rfl
        have hcc := hA.const
        clear hA hp
        refine Reg.out_value (v := .pointer (some ⟨fb, 0, none⟩)) ?_ ⟨rfl, hrefl _, hI⟩
        go_simp
      · refine Reg.StepAt.plain (i := 8) rfl ?_
        intro L ev w hI hk hp hA
        have e24 : ev (.tmp 24) = .pointer (some ⟨fb, 0, none⟩) := hA.val 7 _ 24 rfl (hp ⟨7, .data⟩ (by simp) rfl) rfl
        have hcc := hA.const
        clear hA hp
        refine Reg.out_value (v := .pointer (some ⟨fb, 3, none⟩)) ?_ ⟨rfl, hrefl _, hI⟩
        go_simp
      · refine Reg.StepAt.plain (i := 9) rfl ?_
        intro L ev w hI hk hp hA
        have e25 : ev (.tmp 25) = .pointer (some ⟨fb, 3, none⟩) := hA.val 8 _ 25 rfl (hp ⟨8, .data⟩ (by simp) rfl) rfl
        have hcc := hA.const
        clear hA hp
        refine Reg.out_value (v := .pointer (some ⟨fb, 3, none⟩)) ?_ ⟨rfl, hrefl _, hI⟩
        go_simp
      · refine Reg.StepAt.plain (i := 10) rfl ?_
        intro L ev w hI hk hp hA
        have e26 : ev (.tmp 26) = .pointer (some ⟨fb, 3, none⟩) := hA.val 9 _ 26 rfl (hp ⟨9, .data⟩ (by simp) rfl) rfl
        have hcc := hA.const
        clear hA hp
        obtain ⟨f3, f7, f8, m0⟩ := FC.out w hI
        refine Reg.out_value (v := .int .i64 F.d0) ?_ ⟨rfl, hrefl _, hI⟩
        go_simp
      · refine Reg.StepAt.plain (i := 11) rfl ?_
        intro L ev w hI hk hp hA
        have e2 : ev (.tmp 2) = .pointer (some ⟨nb, 0, none⟩) := hA.oldNone 2 (by kernel_rfl)
        have hcc := hA.const
        clear hA hp
        refine Reg.out_value (v := .pointer (some ⟨nb, 0, none⟩)) ?_ ⟨rfl, hrefl _, hI⟩
        go_simp
      · refine Reg.StepAt.plain (i := 12) rfl ?_
        intro L ev w hI hk hp hA
        have e28 : ev (.tmp 28) = .pointer (some ⟨nb, 0, none⟩) := hA.val 11 _ 28 rfl (hp ⟨11, .data⟩ (by simp) rfl) rfl
        have hcc := hA.const
        clear hA hp
        obtain ⟨f3, f7, f8, m0⟩ := FC.out w hI
        refine Reg.out_value (v := .int .i64 k) ?_ ⟨rfl, hrefl _, hI⟩
        go_simp
      · refine Reg.StepAt.plain (i := 13) rfl ?_
        intro L ev w hI hk hp hA
        have e27 : ev (.tmp 27) = .int .i64 F.d0 := hA.val 10 _ 27 rfl (hp ⟨10, .data⟩ (by simp) rfl) rfl
        have e29 : ev (.tmp 29) = .int .i64 k := hA.val 12 _ 29 rfl (hp ⟨12, .data⟩ (by simp) rfl) rfl
        have hcc := hA.const
        have hcf := hA.func
        clear hA hp
        refine Reg.out_call (f := 35) (args := #[.int .i64 F.d0, .int .i64 k]) (w0 := w) ?_ ?_
        · go_simp
        refine (hI1.out w).mono ?_
        rintro e w' ⟨rfl, hw⟩
        subst hw; exact ⟨_, rfl, rfl, hrefl _, hI⟩
      · refine Reg.StepAt.plain (i := 14) rfl ?_
        intro L ev w hI hk hp hA
        have e1 : ev (.tmp 1) = .pointer (some ⟨fb, 0, none⟩) := hA.oldNone 1 (by kernel_rfl)
        have hcc := hA.const
        clear hA hp
        refine Reg.out_value (v := .pointer (some ⟨fb, 0, none⟩)) ?_ ⟨rfl, hrefl _, hI⟩
        go_simp
      · refine Reg.StepAt.plain (i := 15) rfl ?_
        intro L ev w hI hk hp hA
        have e31 : ev (.tmp 31) = .pointer (some ⟨fb, 0, none⟩) := hA.val 14 _ 31 rfl (hp ⟨14, .data⟩ (by simp) rfl) rfl
        have hcc := hA.const
        clear hA hp
        refine Reg.out_value (v := .pointer (some ⟨fb, 0, none⟩)) ?_ ⟨rfl, hrefl _, hI⟩
        go_simp
      · refine Reg.StepAt.plain (i := 16) rfl ?_
        intro L ev w hI hk hp hA
        have e32 : ev (.tmp 32) = .pointer (some ⟨fb, 0, none⟩) := hA.val 15 _ 32 rfl (hp ⟨15, .data⟩ (by simp) rfl) rfl
        have hcc := hA.const
        clear hA hp
        refine Reg.out_value (v := .pointer (some ⟨fb, 7, none⟩)) ?_ ⟨rfl, hrefl _, hI⟩
        go_simp
      · refine Reg.StepAt.plain (i := 17) rfl ?_
        intro L ev w hI hk hp hA
        have e33 : ev (.tmp 33) = .pointer (some ⟨fb, 7, none⟩) := hA.val 16 _ 33 rfl (hp ⟨16, .data⟩ (by simp) rfl) rfl
        have hcc := hA.const
        clear hA hp
        obtain ⟨f3, f7, f8, m0⟩ := FC.out w hI
        refine Reg.out_value (v := .int .i64 F.seen) ?_ ⟨rfl, hrefl _, hI⟩
        go_simp
      · refine Reg.StepAt.plain (i := 18) rfl ?_
        intro L ev w hI hk hp hA
        have e30 : ev (.tmp 30) = .int .i64 u := hA.val 13 _ 30 rfl (hp ⟨13, .data⟩ (by simp) rfl) rfl
        have e34 : ev (.tmp 34) = .int .i64 F.seen := hA.val 17 _ 34 rfl (hp ⟨17, .data⟩ (by simp) rfl) rfl
        have hcc := hA.const
        clear hA hp
        refine Reg.out_value (v := .int .i64 (u + F.seen)) ?_ ⟨rfl, hrefl _, hI⟩
        (go_simp <;> (rw [IntKind.wrap_i64]; omega))
      · refine Reg.StepAt.plain (i := 19) rfl ?_
        intro L ev w hI hk hp hA
        have e2 : ev (.tmp 2) = .pointer (some ⟨nb, 0, none⟩) := hA.oldNone 2 (by kernel_rfl)
        have hcc := hA.const
        clear hA hp
        refine Reg.out_value (v := .pointer (some ⟨nb, 0, none⟩)) ?_ ⟨rfl, hrefl _, hI⟩
        go_simp
      · refine Reg.StepAt.plain (i := 20) rfl ?_
        intro L ev w hI hk hp hA
        have e36 : ev (.tmp 36) = .pointer (some ⟨nb, 0, none⟩) := hA.val 19 _ 36 rfl (hp ⟨19, .data⟩ (by simp) rfl) rfl
        have hcc := hA.const
        clear hA hp
        obtain ⟨f3, f7, f8, m0⟩ := FC.out w hI
        refine Reg.out_value (v := .int .i64 k) ?_ ⟨rfl, hrefl _, hI⟩
        go_simp
      · refine Reg.StepAt.plain (i := 21) rfl ?_
        intro L ev w hI hk hp hA
        have e35 : ev (.tmp 35) = .int .i64 (u + F.seen) := hA.val 18 _ 35 rfl (hp ⟨18, .data⟩ (by simp) rfl) rfl
        have e37 : ev (.tmp 37) = .int .i64 k := hA.val 20 _ 37 rfl (hp ⟨20, .data⟩ (by simp) rfl) rfl
        have hcc := hA.const
        have hcf := hA.func
        clear hA hp
        refine Reg.out_call (f := 35) (args := #[.int .i64 (u + F.seen), .int .i64 k]) (w0 := w) ?_ ?_
        · go_simp
        refine (hI2.out w).mono ?_
        rintro e w' ⟨rfl, hw⟩
        subst hw; exact ⟨_, rfl, rfl, hrefl _, hI⟩
      · refine Reg.StepAt.plain (i := 22) rfl ?_
        intro L ev w hI hk hp hA
        have e17 : ev (.tmp 17) = .agg #[.int .i64 k] := hA.val 0 _ 17 rfl (hp ⟨0, .data⟩ (by simp) rfl) rfl
        have e21 : ev (.tmp 21) = .int .i64 F.seg := hA.val 4 _ 21 rfl (hp ⟨4, .data⟩ (by simp) rfl) rfl
        have e38 : ev (.tmp 38) = .int .i64 j := hA.val 21 _ 38 rfl (hp ⟨21, .data⟩ (by simp) rfl) rfl
        have hcc := hA.const
        have hcf := hA.func
        clear hA hp
        refine Reg.out_call (f := 97) (args := #[.agg #[.int .i64 k], .int .i64 F.seg, .int .i64 j]) (w0 := w) ?_ ?_
        · go_simp
        refine (hSl.out w).mono ?_
        rintro e w' ⟨rfl, hb'⟩
        exact ⟨_, rfl, rfl, hb', Reg.Keeps.trans hI hb'⟩
      intro act wz hI hF
      have g17 : act.eval (.tmp 17) = .agg #[.int .i64 k] := hF.val 0 _ 17 rfl (by kernel_rfl) rfl
      have g18 : act.eval (.tmp 18) = .pointer (some ⟨fb, 0, none⟩) := hF.val 1 _ 18 rfl (by kernel_rfl) rfl
      have g19 : act.eval (.tmp 19) = .pointer (some ⟨fb, 0, none⟩) := hF.val 2 _ 19 rfl (by kernel_rfl) rfl
      have g20 : act.eval (.tmp 20) = .pointer (some ⟨fb, 8, none⟩) := hF.val 3 _ 20 rfl (by kernel_rfl) rfl
      have g21 : act.eval (.tmp 21) = .int .i64 F.seg := hF.val 4 _ 21 rfl (by kernel_rfl) rfl
      have g22 : act.eval (.tmp 22) = .pointer (some ⟨fb, 0, none⟩) := hF.val 5 _ 22 rfl (by kernel_rfl) rfl
      have g23 : act.eval (.tmp 23) = .pointer (some ⟨fb, 0, none⟩) := hF.val 6 _ 23 rfl (by kernel_rfl) rfl
      have g24 : act.eval (.tmp 24) = .pointer (some ⟨fb, 0, none⟩) := hF.val 7 _ 24 rfl (by kernel_rfl) rfl
      have g25 : act.eval (.tmp 25) = .pointer (some ⟨fb, 3, none⟩) := hF.val 8 _ 25 rfl (by kernel_rfl) rfl
      have g26 : act.eval (.tmp 26) = .pointer (some ⟨fb, 3, none⟩) := hF.val 9 _ 26 rfl (by kernel_rfl) rfl
      have g27 : act.eval (.tmp 27) = .int .i64 F.d0 := hF.val 10 _ 27 rfl (by kernel_rfl) rfl
      have g28 : act.eval (.tmp 28) = .pointer (some ⟨nb, 0, none⟩) := hF.val 11 _ 28 rfl (by kernel_rfl) rfl
      have g29 : act.eval (.tmp 29) = .int .i64 k := hF.val 12 _ 29 rfl (by kernel_rfl) rfl
      have g30 : act.eval (.tmp 30) = .int .i64 u := hF.val 13 _ 30 rfl (by kernel_rfl) rfl
      have g31 : act.eval (.tmp 31) = .pointer (some ⟨fb, 0, none⟩) := hF.val 14 _ 31 rfl (by kernel_rfl) rfl
      have g32 : act.eval (.tmp 32) = .pointer (some ⟨fb, 0, none⟩) := hF.val 15 _ 32 rfl (by kernel_rfl) rfl
      have g33 : act.eval (.tmp 33) = .pointer (some ⟨fb, 7, none⟩) := hF.val 16 _ 33 rfl (by kernel_rfl) rfl
      have g34 : act.eval (.tmp 34) = .int .i64 F.seen := hF.val 17 _ 34 rfl (by kernel_rfl) rfl
      have g35 : act.eval (.tmp 35) = .int .i64 (u + F.seen) := hF.val 18 _ 35 rfl (by kernel_rfl) rfl
      have g36 : act.eval (.tmp 36) = .pointer (some ⟨nb, 0, none⟩) := hF.val 19 _ 36 rfl (by kernel_rfl) rfl
      have g37 : act.eval (.tmp 37) = .int .i64 k := hF.val 20 _ 37 rfl (by kernel_rfl) rfl
      have g38 : act.eval (.tmp 38) = .int .i64 j := hF.val 21 _ 38 rfl (by kernel_rfl) rfl
      have g39 : act.eval (.tmp 39) = .int .i64 z := hF.val 22 _ 39 rfl (by kernel_rfl) rfl
      have hact := hF.actHead [17, 18, 19, 20, 21, 22, 23, 24, 25, 26, 27, 28, 29, 30, 31, 32, 33, 34, 35, 36, 37, 38, 39] (by kernel_rfl)
      clear hF
      simp only [List.foldl_cons, List.foldl_nil] at hact
      rw [g17, g18, g19, g20, g21, g22, g23, g24, g25, g26, g27, g28, g29, g30, g31, g32, g33, g34, g35, g36, g37, g38, g39] at hact
      clear g17 g18 g19 g20 g21 g22 g23 g24 g25 g26 g27 g28 g29 g30 g31 g32 g33 g34 g35 g36 g37 g38 g39
      simp only [List.setIfInBounds_toArray, List.set_cons_succ, List.set_cons_zero] at hact
      subst hact
      simp only [List.drop_succ_cons, List.drop_zero]
      have HI := hidq (HB.out.trans (Below.mono hI HB.out.size))
      clear hI
      go_wp2_with fail
      go_ret
      exact ⟨rfl, HI.out⟩
end Go.Proofs.YtbcmilfajeanbaaGreat

namespace Go.Proofs.YtbcmilfajeanbaaGreat
open Go.RowKit Go.Sort

def kbegin0R (b fb lo : Nat) (e0 : Int) (M : Mem) : List (Value → Nat → World → Prop) :=
  [fun v _ _ => v = .pointer (some ⟨fb, 0, none⟩),
   fun v _ _ => v = .pointer (some ⟨fb, 0, none⟩),
   fun v _ _ => v = .int .i64 e0,
   fun v _ _ => v = .pointer (some ⟨b, 0, none⟩),
   fun v _ _ => v = .int .i64 e0,
   fun v _ w => ∃ a c, v = .agg #[.int .u64 (M.look e0).ver, .int .i64 (M.look e0).n, .slice a (M.look e0).L.length c] ∧ SlAt 2 w a c (M.look e0).L.length (flatI (M.look e0).L) ∧ (∀ j, inB a j → lo ≤ j ∧ j ≠ fb),
   fun v _ _ => v = .pointer (some ⟨fb, 0, none⟩),
   fun v _ _ => v = .pointer (some ⟨fb, 6, none⟩),
   fun _ _ _ => True,
   fun v _ _ => v = .pointer (some ⟨fb, 0, none⟩),
   fun v _ _ => v = .pointer (some ⟨fb, 11, none⟩),
   fun v _ _ => v = .pointer (some ⟨fb, 11, none⟩),
   fun _ _ _ => True]
theorem kbegin0R_kept (b fb lo : Nat) (e0 : Int) (M : Mem) : Reg.GAllKept (Reg.PPres (fun j => j = fb)) (kbegin0R b fb lo e0 M) :=
  ⟨(fun _ _ _ _ _ _ h => h), (fun _ _ _ _ _ _ h => h), (fun _ _ _ _ _ _ h => h), (fun _ _ _ _ _ _ h => h), (fun _ _ _ _ _ _ h => h), (fun v x w x' w' hp h => by obtain ⟨a, c, h1, h2, h3⟩ := h; exact ⟨a, c, h1, h2.but hp.2.2 (fun j hj => (h3 j hj).2), h3⟩), (fun _ _ _ _ _ _ h => h), (fun _ _ _ _ _ _ h => h), (fun _ _ _ _ _ _ _ => trivial), (fun _ _ _ _ _ _ h => h), (fun _ _ _ _ _ _ h => h), (fun _ _ _ _ _ _ h => h), (fun _ _ _ _ _ _ _ => trivial), trivial⟩

set_option maxRecDepth 20000 in
set_option maxHeartbeats 4000000 in
theorem kbegin_any (e0 : Int) (W1 : World) (b fb : Nat) (O P : Nat → Prop) (M : Mem) (F : Fr) (h : MemAt W1 b O M) (hf : FrAt W1 fb P F) (hd : ∀ k, O k → ¬ P k) :
    Calls Tryz.prog 185 #[.pointer (some ⟨b, 0, none⟩), .pointer (some ⟨fb, 0, none⟩), .int .i64 e0] W1 (RdEnd b fb O P M (kBegin M F e0) W1) := by
  obtain ⟨a0, k0, a1, k1, hB, hS0, hS1, hi0, hi1⟩ := hf.box
  have hfl := hB.lt
  have hO : ¬ O fb := fun e => hd _ e hf.ob
  have HH := hidq (And.intro h (And.intro hf hd))
  have HB := hidq (And.intro hB (And.intro hS0 (And.intro hS1 (And.intro hi0 hi1))))
  obtain ⟨F2, hF2⟩ : ∃ F2, kBegin M F e0 = F2 := ⟨_, rfl⟩
  rw [hF2]
  have HF2 := hidq hF2
  clear hF2
  go_enter Tryz.func185, Tryz.ntmps185
  have hR := hidq (fun W (hW : But (fun j => j = fb) W1 W) => read5_any b O M e0 W (h.but hW (fun k hk e => hO (e ▸ hk))))
  obtain ⟨lo, hlo⟩ : ∃ lo, W1.heap.size = lo := ⟨_, rfl⟩
  have HLOW := hidq hlo
  clear h hf hd hB hS0 hS1 hi0 hi1
  have HF : ∀ x w w', Below w.heap.size w w' → (fun x w => (x = 0 → BoxAt w fb (F.l a0 k0 a1 k1)) ∧ (x = 1 → BoxAt w fb ((F.l a0 k0 a1 k1).set 6 (.int .i64 e0))) ∧ (x = 2 → ∃ a c, BoxAt w fb (((((F.l a0 k0 a1 k1).set 6 (.int .i64 e0)).set 11 (.int .u64 (M.look e0).ver)).set 12 (.int .i64 (M.look e0).n)).set 13 (.slice a (M.look e0).L.length c)) ∧ SlAt 2 w a c (M.look e0).L.length (flatI (M.look e0).L) ∧ (∀ j, inB a j → lo ≤ j ∧ j ≠ fb))) x w → (fun x w => (x = 0 → BoxAt w fb (F.l a0 k0 a1 k1)) ∧ (x = 1 → BoxAt w fb ((F.l a0 k0 a1 k1).set 6 (.int .i64 e0))) ∧ (x = 2 → ∃ a c, BoxAt w fb (((((F.l a0 k0 a1 k1).set 6 (.int .i64 e0)).set 11 (.int .u64 (M.look e0).ver)).set 12 (.int .i64 (M.look e0).n)).set 13 (.slice a (M.look e0).L.length c)) ∧ SlAt 2 w a c (M.look e0).L.length (flatI (M.look e0).L) ∧ (∀ j, inB a j → lo ≤ j ∧ j ≠ fb))) x w' := fun x w w' hb hh => ⟨fun e => (hh.1 e).below hb, fun e => (hh.2.1 e).below hb, fun e => by obtain ⟨a, c, q1, q2, q3⟩ := hh.2.2 e; exact ⟨a, c, q1.below hb, q2.below hb, q3⟩⟩
  go_wp2_with fail
  refine Reg.wp_region_ghost (Reg.gofList (kbegin0R b fb lo e0 M)) (Reg.PPres (fun j => j = fb)) (Reg.PInv [8, 12] (fun j => j = fb) W1 (fun x w => (x = 0 → BoxAt w fb (F.l a0 k0 a1 k1)) ∧ (x = 1 → BoxAt w fb ((F.l a0 k0 a1 k1).set 6 (.int .i64 e0))) ∧ (x = 2 → ∃ a c, BoxAt w fb (((((F.l a0 k0 a1 k1).set 6 (.int .i64 e0)).set 11 (.int .u64 (M.look e0).ver)).set 12 (.int .i64 (M.look e0).n)).set 13 (.slice a (M.look e0).L.length c)) ∧ SlAt 2 w a c (M.look e0).L.length (flatI (M.look e0).L) ∧ (∀ j, inB a j → lo ≤ j ∧ j ≠ fb)))) 0 (by kernel_rfl) (by kernel_rfl) (Reg.GAllKept.at _ (kbegin0R_kept b fb lo e0 M)) (Reg.PInv.start 13 ⟨fun _ => HB.out.1.drew, (fun e => by cases e), (fun e => by cases e)⟩) ⟨?_, ?_, ?_, ?_, ?_, ?_, ?_, ?_, ?_, ?_, ?_, ?_, ?_, trivial⟩ ?_
  · refine Reg.GStepAt.plain (i := 0) rfl ?_
    intro x L ev w hI hk hp hA
    have e1 : ev (.tmp 1) = .pointer (some ⟨fb, 0, none⟩) := hA.oldNone 1 (by kernel_rfl)
    have hcc := hA.const
    clear hA hp
    refine Reg.out_value (v := .pointer (some ⟨fb, 0, none⟩)) ?_ ⟨x, rfl, Reg.PPres.refl _ _ _, Reg.PInv.light HF hI 0 (by decide) (Below.refl _ _)⟩
    go_simp
  · refine Reg.GStepAt.plain (i := 1) rfl ?_
    intro x L ev w hI hk hp hA
    have e1 : ev (.tmp 1) = .pointer (some ⟨fb, 0, none⟩) := hA.oldNone 1 (by kernel_rfl)
    have hcc := hA.const
    clear hA hp
    refine Reg.out_value (v := .pointer (some ⟨fb, 0, none⟩)) ?_ ⟨x, rfl, Reg.PPres.refl _ _ _, Reg.PInv.light HF hI 1 (by decide) (Below.refl _ _)⟩
    go_simp
  · refine Reg.GStepAt.plain (i := 2) rfl ?_
    intro x L ev w hI hk hp hA
    have e2 : ev (.tmp 2) = .int .i64 e0 := hA.oldNone 2 (by kernel_rfl)
    have hcc := hA.const
    clear hA hp
    refine Reg.out_value (v := .int .i64 e0) ?_ ⟨x, rfl, Reg.PPres.refl _ _ _, Reg.PInv.light HF hI 2 (by decide) (Below.refl _ _)⟩
    go_simp
  · refine Reg.GStepAt.plain (i := 3) rfl ?_
    intro x L ev w hI hk hp hA
    have e0 : ev (.tmp 0) = .pointer (some ⟨b, 0, none⟩) := hA.oldNone 0 (by kernel_rfl)
    have hcc := hA.const
    clear hA hp
    refine Reg.out_value (v := .pointer (some ⟨b, 0, none⟩)) ?_ ⟨x, rfl, Reg.PPres.refl _ _ _, Reg.PInv.light HF hI 3 (by decide) (Below.refl _ _)⟩
    go_simp
  · refine Reg.GStepAt.plain (i := 4) rfl ?_
    intro x L ev w hI hk hp hA
    have e2 : ev (.tmp 2) = .int .i64 e0 := hA.oldNone 2 (by kernel_rfl)
    have hcc := hA.const
    clear hA hp
    refine Reg.out_value (v := .int .i64 e0) ?_ ⟨x, rfl, Reg.PPres.refl _ _ _, Reg.PInv.light HF hI 4 (by decide) (Below.refl _ _)⟩
    go_simp
  · refine Reg.GStepAt.plain (i := 5) rfl ?_
    intro x L ev w hI hk hp hA
    have e9 : ev (.tmp 9) = .pointer (some ⟨b, 0, none⟩) := hA.val 3 _ 9 rfl (hp ⟨3, .data⟩ (by simp) rfl) rfl
    have e10 : ev (.tmp 10) = .int .i64 e0 := hA.val 4 _ 10 rfl (hp ⟨4, .data⟩ (by simp) rfl) rfl
    have hcc := hA.const
    have hcf := hA.func
    clear hA hp
    refine Reg.out_call (f := 80) (args := #[.pointer (some ⟨b, 0, none⟩), .int .i64 e0]) (w0 := w) ?_ ?_
    · go_simp
    refine (hR.out w hI.2.1).mono ?_
    rintro e w' ⟨a', c', rfl, hs', hn', hb'⟩
    exact ⟨_, rfl, x, ⟨a', c', rfl, hs', fun j hj => by have := hn' j hj; have h1 := hI.2.1.size; omega⟩, Reg.PPres.light hb', Reg.PInv.light HF hI 5 (by decide) hb'⟩
  · refine Reg.GStepAt.plain (i := 6) rfl ?_
    intro x L ev w hI hk hp hA
    have e6 : ev (.tmp 6) = .pointer (some ⟨fb, 0, none⟩) := hA.val 0 _ 6 rfl (hp ⟨0, .data⟩ (by simp) rfl) rfl
    have hcc := hA.const
    clear hA hp
    refine Reg.out_value (v := .pointer (some ⟨fb, 0, none⟩)) ?_ ⟨x, rfl, Reg.PPres.refl _ _ _, Reg.PInv.light HF hI 6 (by decide) (Below.refl _ _)⟩
    go_simp
  · refine Reg.GStepAt.plain (i := 7) rfl ?_
    intro x L ev w hI hk hp hA
    have e12 : ev (.tmp 12) = .pointer (some ⟨fb, 0, none⟩) := hA.val 6 _ 12 rfl (hp ⟨6, .data⟩ (by simp) rfl) rfl
    have hcc := hA.const
    clear hA hp
    refine Reg.out_value (v := .pointer (some ⟨fb, 6, none⟩)) ?_ ⟨x, rfl, Reg.PPres.refl _ _ _, Reg.PInv.light HF hI 7 (by decide) (Below.refl _ _)⟩
    go_simp
  · refine Reg.GStepAt.plain (i := 8) rfl ?_
    intro x L ev w hI hk hp hA
    have e13 : ev (.tmp 13) = .pointer (some ⟨fb, 6, none⟩) := hA.val 7 _ 13 rfl (hp ⟨7, .data⟩ (by simp) rfl) rfl
    have e8 : ev (.tmp 8) = .int .i64 e0 := hA.val 2 _ 8 rfl (hp ⟨2, .data⟩ (by simp) rfl) rfl
    have hcc := hA.const
    have NL := Reg.not_listed hA 8 12 _ rfl ⟨8, .chain⟩ (by simp) rfl hk
    clear hA hp
    have hx : x = 0 := hI.1.trans (Reg.cnt_zero2 (Reg.getD_true hk) NL)
    have hT := hI.2.2.1 hx
    obtain ⟨c6, y6⟩ := hT.get 6 _ rfl
    have hset := hT.set 6 (.int .i64 e0)
    have hbS : But (fun j => j = fb) w (w.setCell ⟨fb, 6, none⟩ (.int .i64 e0)) := (But.refl (fun j => j = fb) w).set1 fb 6 rfl _
    refine Reg.out_skipP (w' := w.setCell ⟨fb, 6, none⟩ (.int .i64 e0)) ?_ ⟨x + 1, trivial, Reg.PPres.heavy hbS, Reg.PInv.heavy hI 8 (by decide) (by simp) hk hbS ⟨fun e => by omega, fun e => hset, fun e => by omega⟩⟩
    clear hI hset hT hbS
    go_simp
  · refine Reg.GStepAt.plain (i := 9) rfl ?_
    intro x L ev w hI hk hp hA
    have e7 : ev (.tmp 7) = .pointer (some ⟨fb, 0, none⟩) := hA.val 1 _ 7 rfl (hp ⟨1, .data⟩ (by simp) rfl) rfl
    have hcc := hA.const
    clear hA hp
    refine Reg.out_value (v := .pointer (some ⟨fb, 0, none⟩)) ?_ ⟨x, rfl, Reg.PPres.refl _ _ _, Reg.PInv.light HF hI 9 (by decide) (Below.refl _ _)⟩
    go_simp
  · refine Reg.GStepAt.plain (i := 10) rfl ?_
    intro x L ev w hI hk hp hA
    have e14 : ev (.tmp 14) = .pointer (some ⟨fb, 0, none⟩) := hA.val 9 _ 14 rfl (hp ⟨9, .data⟩ (by simp) rfl) rfl
    have hcc := hA.const
    clear hA hp
    refine Reg.out_value (v := .pointer (some ⟨fb, 11, none⟩)) ?_ ⟨x, rfl, Reg.PPres.refl _ _ _, Reg.PInv.light HF hI 10 (by decide) (Below.refl _ _)⟩
    go_simp
  · refine Reg.GStepAt.plain (i := 11) rfl ?_
    intro x L ev w hI hk hp hA
    have e15 : ev (.tmp 15) = .pointer (some ⟨fb, 11, none⟩) := hA.val 10 _ 15 rfl (hp ⟨10, .data⟩ (by simp) rfl) rfl
    have hcc := hA.const
    clear hA hp
    refine Reg.out_value (v := .pointer (some ⟨fb, 11, none⟩)) ?_ ⟨x, rfl, Reg.PPres.refl _ _ _, Reg.PInv.light HF hI 11 (by decide) (Below.refl _ _)⟩
    go_simp
  · refine Reg.GStepAt.plain (i := 12) rfl ?_
    intro x L ev w hI hk hp hA
    have e16 : ev (.tmp 16) = .pointer (some ⟨fb, 11, none⟩) := hA.val 11 _ 16 rfl (hp ⟨11, .data⟩ (by simp) rfl) rfl
    have e11 : (fun v _ w => ∃ a c, v = .agg #[.int .u64 (M.look e0).ver, .int .i64 (M.look e0).n, .slice a (M.look e0).L.length c] ∧ SlAt 2 w a c (M.look e0).L.length (flatI (M.look e0).L) ∧ (∀ j, inB a j → lo ≤ j ∧ j ≠ fb)) (ev (.tmp 11)) x w := hA.val 5 _ 11 rfl (hp ⟨5, .data⟩ (by simp) rfl) rfl
    have hcc := hA.const
    have L8 : L.getD 8 false = true := hp ⟨8, .chain⟩ (by simp) rfl
    clear hA hp
    have hx : x = 1 := hI.1.trans (Reg.cnt_one2 L8 (Reg.getD_true hk))
    have hT := hI.2.2.2.1 hx
    obtain ⟨a, c, e11, hsl, hin⟩ := e11
    obtain ⟨c11, y11⟩ := hT.get 11 _ rfl
    obtain ⟨c12, y12⟩ := hT.get 12 _ rfl
    obtain ⟨c13, y13⟩ := hT.get 13 _ rfl
    have hset := setBox_box [(11, .int .u64 (M.look e0).ver), (12, .int .i64 (M.look e0).n), (13, .slice a (M.look e0).L.length c)] hT
    have hbS := setBox_but fb [(11, .int .u64 (M.look e0).ver), (12, .int .i64 (M.look e0).n), (13, .slice a (M.look e0).L.length c)] w
    refine Reg.out_skipP (w' := setBox w fb [(11, .int .u64 (M.look e0).ver), (12, .int .i64 (M.look e0).n), (13, .slice a (M.look e0).L.length c)]) ?_ ⟨x + 1, trivial, Reg.PPres.heavy hbS, Reg.PInv.heavy hI 12 (by decide) (by simp) hk hbS ⟨fun e => by omega, fun e => by omega, fun e => ⟨a, c, hset, hsl.but hbS (fun j hj => (hin j hj).2), fun j hj => (hin j hj)⟩⟩⟩
    clear hI hset hT hbS hsl hin
    simp only [setBox]
    go_simp
  intro gx L act wz hall hI hF
  have g6 : act.eval (.tmp 6) = .pointer (some ⟨fb, 0, none⟩) := hF.val 0 _ 6 rfl (hall 0 (by simp)) rfl
  have g7 : act.eval (.tmp 7) = .pointer (some ⟨fb, 0, none⟩) := hF.val 1 _ 7 rfl (hall 1 (by simp)) rfl
  have g8 : act.eval (.tmp 8) = .int .i64 e0 := hF.val 2 _ 8 rfl (hall 2 (by simp)) rfl
  have g9 : act.eval (.tmp 9) = .pointer (some ⟨b, 0, none⟩) := hF.val 3 _ 9 rfl (hall 3 (by simp)) rfl
  have g10 : act.eval (.tmp 10) = .int .i64 e0 := hF.val 4 _ 10 rfl (hall 4 (by simp)) rfl
  have g11 : (fun v _ w => ∃ a c, v = .agg #[.int .u64 (M.look e0).ver, .int .i64 (M.look e0).n, .slice a (M.look e0).L.length c] ∧ SlAt 2 w a c (M.look e0).L.length (flatI (M.look e0).L) ∧ (∀ j, inB a j → lo ≤ j ∧ j ≠ fb)) (act.eval (.tmp 11)) gx wz := hF.val 5 _ 11 rfl (hall 5 (by simp)) rfl
  have g12 : act.eval (.tmp 12) = .pointer (some ⟨fb, 0, none⟩) := hF.val 6 _ 12 rfl (hall 6 (by simp)) rfl
  have g13 : act.eval (.tmp 13) = .pointer (some ⟨fb, 6, none⟩) := hF.val 7 _ 13 rfl (hall 7 (by simp)) rfl
  have g14 : act.eval (.tmp 14) = .pointer (some ⟨fb, 0, none⟩) := hF.val 9 _ 14 rfl (hall 9 (by simp)) rfl
  have g15 : act.eval (.tmp 15) = .pointer (some ⟨fb, 11, none⟩) := hF.val 10 _ 15 rfl (hall 10 (by simp)) rfl
  have g16 : act.eval (.tmp 16) = .pointer (some ⟨fb, 11, none⟩) := hF.val 11 _ 16 rfl (hall 11 (by simp)) rfl
  have hact := hF.act [6, 7, 8, 9, 10, 11, 12, 13, 14, 15, 16] (by kernel_rfl)
  obtain ⟨hxz, hBz, hFz⟩ := Reg.PInv.done hI (fun j hj => hall j (by simp at hj ⊢; omega))
  clear hF hall
  simp only [List.foldl_cons, List.foldl_nil] at hact
  rw [g6, g7, g8, g9, g10, g12, g13, g14, g15, g16] at hact
  clear g6 g7 g8 g9 g10 g12 g13 g14 g15 g16
  generalize act.eval (.tmp 11) = u11 at hact g11
  simp only [List.setIfInBounds_toArray, List.set_cons_succ, List.set_cons_zero] at hact
  subst hact
  obtain ⟨a2, k2, hB2, hS2, hn2⟩ := hFz.2.2 rfl
  obtain ⟨HM, HFr, HD⟩ := HH.out
  obtain ⟨hB, hS0, hS1, hi0, hi1⟩ := HB.out
  have hlow := HLOW.out
  have FIN := hidq (rdEnd_of (w := W1) (P := P) (F' := kBegin M F e0) [(8, .int .i64 (M.look e0).n), (7, .int .i64 0), (10, .bool false)]
    (HM.but hBz (fun k hk e => hO (e ▸ hk))) (hBz.mono (fun k _ e => e ▸ HFr.ob)) HFr.ob hB2 rfl hO
    hS2 (fun j hj => by have := hn2 j hj; exact ⟨by omega, fun e => by have := HM.lt _ e; omega, .inr (by omega)⟩)
    (hS1.but hBz (fun j hj => (hi1 j hj).2)) (fun j hj => ⟨(hi1 j hj).2, fun e => HD _ e (hi1 j hj).1, .inl (hi1 j hj).1⟩))
  obtain ⟨q12, z12⟩ := hB2.get 12 _ rfl
  obtain ⟨q8, z8⟩ := hB2.get 8 _ rfl
  obtain ⟨q7, z7⟩ := hB2.get 7 _ rfl
  obtain ⟨q10, z10⟩ := hB2.get 10 _ rfl
  have hfz := hB2.lt
  clear hB2 HM HFr HD hB hS0 hS1 hi0 hi1 HH HB hR hS2 hn2 hlow HLOW hlo hBz hFz HF hfl hxz
  go_wp2
  go_end0
  rw [← HF2.out]
  exact FIN.out
end Go.Proofs.YtbcmilfajeanbaaGreat

namespace Go.Proofs.YtbcmilfajeanbaaGreat
open Go.RowKit Go.Sort

theorem kLook_yes {k want : Int} {M : Mem} {F : Fr} (h : (M.look (kAt k F)).n = want) : kLook k want M F = { F with empty := F.empty || decide ((M.look (kAt k F)).n = 0), c1 := M.look (kAt k F), pc := 3 } := if_pos h
theorem kLook_no {k want : Int} {M : Mem} {F : Fr} (h : ¬ (M.look (kAt k F)).n = want) : kLook k want M F = { F with empty := F.empty || decide ((M.look (kAt k F)).n = 0), seen := F.seen + 1, pc := if F.seen + 1 = k then 4 else F.pc } := if_neg h

def klook4R (fb cl k3 : Nat) (a3 : Option Addr) (cver cn : Int) : List (Value → Nat → World → Prop) :=
  [fun v _ _ => v = .pointer (some ⟨fb, 0, none⟩),
   fun v _ _ => v = .pointer (some ⟨fb, 0, none⟩),
   fun v _ _ => v = .agg #[.int .u64 cver, .int .i64 cn, .slice a3 cl k3],
   fun v _ _ => v = .pointer (some ⟨fb, 0, none⟩),
   fun v _ _ => v = .pointer (some ⟨fb, 11, none⟩),
   fun v _ _ => v = .pointer (some ⟨fb, 14, none⟩),
   fun _ _ _ => True,
   fun v _ _ => v = .pointer (some ⟨fb, 0, none⟩),
   fun v _ _ => v = .pointer (some ⟨fb, 5, none⟩),
   fun _ _ _ => True]
theorem klook4R_kept (fb cl k3 : Nat) (a3 : Option Addr) (cver cn : Int) : Reg.GAllKept (Reg.PPres (fun j => j = fb)) (klook4R fb cl k3 a3 cver cn) :=
  ⟨(fun _ _ _ _ _ _ h => h), (fun _ _ _ _ _ _ h => h), (fun _ _ _ _ _ _ h => h), (fun _ _ _ _ _ _ h => h), (fun _ _ _ _ _ _ h => h), (fun _ _ _ _ _ _ h => h), (fun _ _ _ _ _ _ _ => trivial), (fun _ _ _ _ _ _ h => h), (fun _ _ _ _ _ _ h => h), (fun _ _ _ _ _ _ _ => trivial), trivial⟩

set_option maxRecDepth 20000 in
set_option maxHeartbeats 8000000 in
theorem klook_any (k want : Int) (w : World) (b fb : Nat) (O P : Nat → Prop) (M : Mem) (F : Fr) (h : MemAt w b O M) (hf : FrAt w fb P F) (hd : ∀ k, O k → ¬ P k) (hk : 1 ≤ k ∧ k ≤ 16) (hs : 0 ≤ F.seen ∧ F.seen ≤ 100) :
    Calls Tryz.prog 186 #[.agg #[.int .i64 k], .pointer (some ⟨b, 0, none⟩), .pointer (some ⟨fb, 0, none⟩), .int .i64 want] w (RdEnd b fb O P M (kLook k want M F) w) := by
  obtain ⟨nb, hnb⟩ : ∃ nb, w.heap.size = nb := ⟨_, rfl⟩
  obtain ⟨W1, hW1⟩ : ∃ W1, w.alloc (.cells #[.int .i64 k] 151) = W1 := ⟨_, rfl⟩
  have hBq := BoxAt.new w [.int .i64 k] 151
  rw [show w.alloc (.cells [.int .i64 k].toArray 151) = W1 from hW1, hnb] at hBq
  have hb1 : Below w.heap.size w W1 := by rw [← hW1]; exact (Below.refl _ _).alloc (Nat.le_refl _) _
  have hf1 := hf.below hb1
  obtain ⟨a0, k0, a1, k1, hB1, hS01, hS11, hi0, hi1⟩ := hf1.box
  have hAt := hidq (kat_any k W1 fb F hk hB1.lt (hB1.get 3 _ rfl).1 (hB1.get 7 _ rfl).1 (hB1.get 8 _ rfl).1 hs)
  obtain ⟨at_, hat⟩ : ∃ x, kAt k F = x := ⟨_, rfl⟩
  rw [hat] at hAt
  have hR := hidq (fun W (hW : Below W1.heap.size W1 W) => read5_any b O M at_ W (h.below (hb1.trans (hW.mono hb1.size))))
  have q0 := (hBq.get 0 _ rfl).1
  have hql := hBq.lt
  obtain ⟨F2, hF2⟩ : ∃ F2, kLook k want M F = F2 := ⟨_, rfl⟩
  rw [hF2]
  have HH := hidq (And.intro h (And.intro hf (And.intro hd (And.intro hb1 (And.intro hBq (And.intro hnb (And.intro hat hF2)))))))
  clear h hf hd hb1 hf1 hB1 hS01 hS11 hi0 hi1 hat hF2 hBq
  go_enter Tryz.func186, Tryz.ntmps186
  go_wp2_with fail
  refine hAt.out.mono ?_
  rintro e w2 ⟨rfl, hb2⟩
  have hRR := hidq (hR.out w2 hb2)
  have HB2 := hidq hb2
  clear hb2 hAt hR q0 hql
  go_wp2_with fail
  refine hRR.out.mono ?_
  rintro e w3 ⟨a3, k3, rfl, hS3, hn3, hb3⟩
  clear hRR
  obtain ⟨cv, hcv⟩ : ∃ cv, M.look at_ = cv := ⟨_, rfl⟩
  rw [hcv] at hS3 ⊢
  obtain ⟨cver, cn, cL⟩ := cv
  dsimp only at hS3 ⊢
  obtain ⟨cl, hcl⟩ : ∃ cl, cL.length = cl := ⟨_, rfl⟩
  rw [hcl]
  obtain ⟨h, hf, hd, hb1, hBq, hnb, hat, hF2⟩ := HH.out
  have hb13 : Below W1.heap.size W1 w3 := HB2.out.trans (hb3.mono HB2.out.size)
  have hb03 : Below w.heap.size w w3 := hb1.trans (hb13.mono hb1.size)
  obtain ⟨cb, hcb⟩ : ∃ cb, w3.heap.size = cb := ⟨_, rfl⟩
  have hs3 : w2.heap.size ≤ cb := by rw [← hcb]; exact hb3.size
  have hs2 : W1.heap.size ≤ w2.heap.size := HB2.out.size
  have hs1 : W1.heap.size = nb + 1 := by rw [← hW1]; simp [hnb]
  obtain ⟨W4, hW4⟩ : ∃ W4, w3.alloc (.cells #[.int .u64 cver, .int .i64 cn, .slice a3 cl k3] 94) = W4 := ⟨_, rfl⟩
  have hBc := BoxAt.new w3 [.int .u64 cver, .int .i64 cn, .slice a3 cl k3] 94
  rw [show w3.alloc (.cells [.int .u64 cver, .int .i64 cn, .slice a3 cl k3].toArray 94) = W4 from hW4, hcb] at hBc
  have hb4 : Below w3.heap.size w3 W4 := by rw [← hW4]; exact (Below.refl _ _).alloc (Nat.le_refl _) _
  have hb04 : Below w.heap.size w W4 := hb03.trans (hb4.mono hb03.size)
  have hf4 := hf.below hb04
  have hM4 := h.below hb04
  have hQ4 := (hBq.below hb13).below hb4
  have hS4 := hS3.below hb4
  obtain ⟨a0, k0, a1, k1, hB4, hS04, hS14, hi0, hi1⟩ := hf4.box
  obtain ⟨f10, y10⟩ := hB4.get 10 _ rfl
  obtain ⟨f7, y7⟩ := hB4.get 7 _ rfl
  obtain ⟨f5, y5⟩ := hB4.get 5 _ rfl
  obtain ⟨f14, y14⟩ := hB4.get 14 _ rfl
  obtain ⟨f15, y15⟩ := hB4.get 15 _ rfl
  obtain ⟨f16, y16⟩ := hB4.get 16 _ rfl
  have b0 := (hBc.get 0 _ rfl).1
  have b1 := (hBc.get 1 _ rfl).1
  have b2 := (hBc.get 2 _ rfl).1
  have m0 := (hQ4.get 0 _ rfl).1
  have hfl := hB4.lt
  have hbl := hBc.lt
  have hql := hQ4.lt
  have hfp := hf.lt _ hf.ob
  have hne1 : ¬ fb = cb := by omega
  have hne2 : ¬ fb = nb := by omega
  have hOf : ¬ O fb := fun e => hd _ e hf.ob
  have hsn : F.seen < 9223372036854775807 := by omega
  obtain ⟨z, hz0⟩ : ∃ z : Bool, decide (cn = 0) = z := ⟨_, rfl⟩
  have hz1 : (cn == 0) = z := by rw [← hz0]; rfl
  cases hem : F.empty
  · rw [hem] at f10
    obtain ⟨e2, he2⟩ : ∃ e2 : Bool, e2 = z := ⟨_, rfl⟩
    obtain ⟨W5, hW5⟩ : ∃ W5, W4.setCell ⟨fb, 10, none⟩ (.bool e2) = W5 := ⟨_, rfl⟩
    have hB5 := hB4.set 10 (.bool e2)
    have hb45 : But (fun j => j = fb) W4 (W4.setCell ⟨fb, 10, none⟩ (.bool e2)) := (But.refl (fun j => j = fb) W4).set1 fb 10 rfl _
    rw [hW5] at hB5 hb45
    have hBc5 := hBc.but hb45 (fun e => hne1 e.symm)
    have hQ5 := hQ4.but hb45 (fun e => hne2 e.symm)
    have hs5 : W5.heap.size = W4.heap.size := by rw [← hW5, World.size_setCell]
    have HB5 := hidq (And.intro hB5 (And.intro (hM4.but hb45 (fun k hk e => hOf (e ▸ hk))) (And.intro (hS4.but hb45 (fun j hj e => by have := hn3 j hj; omega)) (And.intro (hS04.but hb45 (fun j hj => (hi0 j hj).2)) (And.intro (hS14.but hb45 (fun j hj => (hi1 j hj).2)) (And.intro hi0 (And.intro hi1 (And.intro ((But.of_below hb04).then hb45 (fun j _ e => (e ▸ hf.ob : P j))) (And.intro hf.ob (And.intro hd (And.intro hf.lt h.lt)))))))))))
    have FC := hidq (fun W (hW : But (fun j => j = fb) W5 W) => (show W.cell? ⟨cb, 0, none⟩ = some (.int .u64 cver) ∧ W.cell? ⟨cb, 1, none⟩ = some (.int .i64 cn) ∧ W.cell? ⟨cb, 2, none⟩ = some (.slice a3 cl k3) from by
      have q := hBc5.but hW (fun e => hne1 e.symm)
      exact ⟨(q.get 0 _ rfl).1, (q.get 1 _ rfl).1, (q.get 2 _ rfl).1⟩))
    have hE2 : (F.empty || decide (cn = 0)) = e2 := by rw [he2, hem]; rw [Bool.false_or]; exact hz0
    have b15 := (hBc5.get 1 _ rfl).1
    have hbl5 := hBc5.lt
    have m05 := (hQ5.get 0 _ rfl).1
    have hql5 := hQ5.lt
    obtain ⟨g7, z7⟩ := hB5.get 7 _ rfl
    obtain ⟨g5, z5⟩ := hB5.get 5 _ rfl
    have hfl5 := hB5.lt
    by_cases hyes : cn = want
    · have hF3 : F2 = { F with empty := e2, c1 := ⟨cver, cn, cL⟩, pc := 3 } := by
        rw [← hF2, kLook_yes (by rw [hat, hcv]; exact hyes), hat, hcv, ← hE2]
      have HF3 := hidq hF3
      have hn3' := hidq (And.intro hn3 (And.intro hs1 (And.intro hs2 (And.intro hs3 (And.intro hnb hcl)))))
      subst hyes
      have t1 : (cn == cn) = true := by simp
      clear hF3 hF2 hat hcv hB5 hb45 hBc5 hQ5 hs5 hE2 h hf hd hb1 hBq hb13 hb03 hBc hb04 hf4 hM4 hQ4 hS4 hS3 hn3 hb3 hB4 hS04 hS14 hi0 hi1 HB2 HH hs1 hs2 hs3 hk hs hcl hb4
      have hW5t : W4.setCell ⟨fb, 10, none⟩ (.bool z) = W5 := by rw [← hW5, he2]
      have HW5t := hidq hW5t
      clear hW5t
      go_wp2_with fail
      rw [HW5t.out]
      clear HW5t
      clear hW5 he2 f10 y10 f7 y7 f5 y5 f14 y14 f15 y15 f16 y16 b0 b1 b2 m0 hfl hbl hql hfp hW4 hW1
      have HF : ∀ x w w', Below w.heap.size w w' → (fun x w => (x = 0 → BoxAt w fb ((F.l a0 k0 a1 k1).set 10 (.bool e2))) ∧ (x = 1 → BoxAt w fb (((((F.l a0 k0 a1 k1).set 10 (.bool e2)).set 14 (.int .u64 cver)).set 15 (.int .i64 cn)).set 16 (.slice a3 cl k3))) ∧ (x = 2 → BoxAt w fb ((((((F.l a0 k0 a1 k1).set 10 (.bool e2)).set 14 (.int .u64 cver)).set 15 (.int .i64 cn)).set 16 (.slice a3 cl k3)).set 5 (.int .i64 3)))) x w → (fun x w => (x = 0 → BoxAt w fb ((F.l a0 k0 a1 k1).set 10 (.bool e2))) ∧ (x = 1 → BoxAt w fb (((((F.l a0 k0 a1 k1).set 10 (.bool e2)).set 14 (.int .u64 cver)).set 15 (.int .i64 cn)).set 16 (.slice a3 cl k3))) ∧ (x = 2 → BoxAt w fb ((((((F.l a0 k0 a1 k1).set 10 (.bool e2)).set 14 (.int .u64 cver)).set 15 (.int .i64 cn)).set 16 (.slice a3 cl k3)).set 5 (.int .i64 3)))) x w' := fun x w w' hb hh => ⟨fun e => (hh.1 e).below hb, fun e => (hh.2.1 e).below hb, fun e => (hh.2.2 e).below hb⟩
      refine Reg.wp_region_ghost (Reg.gofList (klook4R fb cl k3 a3 cver cn)) (Reg.PPres (fun j => j = fb)) (Reg.PInv [6, 9] (fun j => j = fb) W5 (fun x w => (x = 0 → BoxAt w fb ((F.l a0 k0 a1 k1).set 10 (.bool e2))) ∧ (x = 1 → BoxAt w fb (((((F.l a0 k0 a1 k1).set 10 (.bool e2)).set 14 (.int .u64 cver)).set 15 (.int .i64 cn)).set 16 (.slice a3 cl k3))) ∧ (x = 2 → BoxAt w fb ((((((F.l a0 k0 a1 k1).set 10 (.bool e2)).set 14 (.int .u64 cver)).set 15 (.int .i64 cn)).set 16 (.slice a3 cl k3)).set 5 (.int .i64 3))))) 0 (by kernel_rfl) (by kernel_rfl) (Reg.GAllKept.at _ (klook4R_kept fb cl k3 a3 cver cn)) (Reg.PInv.start 10 ⟨fun _ => HB5.out.1.drew, (fun e => by cases e), (fun e => by cases e)⟩) ⟨?_, ?_, ?_, ?_, ?_, ?_, ?_, ?_, ?_, ?_, trivial⟩ ?_
      · refine Reg.GStepAt.plain (i := 0) rfl ?_
        intro x L ev w hI hk hp hA
        have e2 : ev (.tmp 2) = .pointer (some ⟨fb, 0, none⟩) := hA.oldNone 2 (by kernel_rfl)
        have hcc := hA.const
        clear hA hp
        refine Reg.out_value (v := .pointer (some ⟨fb, 0, none⟩)) ?_ ⟨x, rfl, Reg.PPres.refl _ _ _, Reg.PInv.light HF hI 0 (by decide) (Below.refl _ _)⟩
        go_simp
      · refine Reg.GStepAt.plain (i := 1) rfl ?_
        intro x L ev w hI hk hp hA
        have e2 : ev (.tmp 2) = .pointer (some ⟨fb, 0, none⟩) := hA.oldNone 2 (by kernel_rfl)
        have hcc := hA.const
        clear hA hp
        refine Reg.out_value (v := .pointer (some ⟨fb, 0, none⟩)) ?_ ⟨x, rfl, Reg.PPres.refl _ _ _, Reg.PInv.light HF hI 1 (by decide) (Below.refl _ _)⟩
        go_simp
      · refine Reg.GStepAt.plain (i := 2) rfl ?_
        intro x L ev w hI hk hp hA
        have e8 : ev (.tmp 8) = .pointer (some ⟨cb, 0, none⟩) := hA.oldNone 8 (by kernel_rfl)
        have hcc := hA.const
        clear hA hp
        have f0 := (FC.out w hI.2.1).1
        have f1 := (FC.out w hI.2.1).2.1
        have f2 := (FC.out w hI.2.1).2.2
        refine Reg.out_value (v := .agg #[.int .u64 cver, .int .i64 cn, .slice a3 cl k3]) ?_ ⟨x, rfl, Reg.PPres.refl _ _ _, Reg.PInv.light HF hI 2 (by decide) (Below.refl _ _)⟩
        go_simp
      · refine Reg.GStepAt.plain (i := 3) rfl ?_
        intro x L ev w hI hk hp hA
        have e32 : ev (.tmp 32) = .pointer (some ⟨fb, 0, none⟩) := hA.val 0 _ 32 rfl (hp ⟨0, .data⟩ (by simp) rfl) rfl
        have hcc := hA.const
        clear hA hp
        refine Reg.out_value (v := .pointer (some ⟨fb, 0, none⟩)) ?_ ⟨x, rfl, Reg.PPres.refl _ _ _, Reg.PInv.light HF hI 3 (by decide) (Below.refl _ _)⟩
        go_simp
      · refine Reg.GStepAt.plain (i := 4) rfl ?_
        intro x L ev w hI hk hp hA
        have e35 : ev (.tmp 35) = .pointer (some ⟨fb, 0, none⟩) := hA.val 3 _ 35 rfl (hp ⟨3, .data⟩ (by simp) rfl) rfl
        have hcc := hA.const
        clear hA hp
        refine Reg.out_value (v := .pointer (some ⟨fb, 11, none⟩)) ?_ ⟨x, rfl, Reg.PPres.refl _ _ _, Reg.PInv.light HF hI 4 (by decide) (Below.refl _ _)⟩
        go_simp
      · refine Reg.GStepAt.plain (i := 5) rfl ?_
        intro x L ev w hI hk hp hA
        have e36 : ev (.tmp 36) = .pointer (some ⟨fb, 11, none⟩) := hA.val 4 _ 36 rfl (hp ⟨4, .data⟩ (by simp) rfl) rfl
        have hcc := hA.const
        clear hA hp
        refine Reg.out_value (v := .pointer (some ⟨fb, 14, none⟩)) ?_ ⟨x, rfl, Reg.PPres.refl _ _ _, Reg.PInv.light HF hI 5 (by decide) (Below.refl _ _)⟩
        go_simp
      · refine Reg.GStepAt.plain (i := 6) rfl ?_
        intro x L ev w hI hk hp hA
        have e37 : ev (.tmp 37) = .pointer (some ⟨fb, 14, none⟩) := hA.val 5 _ 37 rfl (hp ⟨5, .data⟩ (by simp) rfl) rfl
        have e34 : ev (.tmp 34) = .agg #[.int .u64 cver, .int .i64 cn, .slice a3 cl k3] := hA.val 2 _ 34 rfl (hp ⟨2, .data⟩ (by simp) rfl) rfl
        have hcc := hA.const
        have NL := Reg.not_listed hA 6 9 _ rfl ⟨6, .chain⟩ (by simp) rfl hk
        clear hA hp
        have hx : x = 0 := hI.1.trans (Reg.cnt_zero2 (Reg.getD_true hk) NL)
        have hT := hI.2.2.1 hx
        obtain ⟨c14, y14⟩ := hT.get 14 _ rfl
        obtain ⟨c15, y15⟩ := hT.get 15 _ rfl
        obtain ⟨c16, y16⟩ := hT.get 16 _ rfl
        have hset := setBox_box [(14, .int .u64 cver), (15, .int .i64 cn), (16, .slice a3 cl k3)] hT
        have hbS := setBox_but fb [(14, .int .u64 cver), (15, .int .i64 cn), (16, .slice a3 cl k3)] w
        refine Reg.out_skipP (w' := setBox w fb [(14, .int .u64 cver), (15, .int .i64 cn), (16, .slice a3 cl k3)]) ?_ ⟨x + 1, trivial, Reg.PPres.heavy hbS, Reg.PInv.heavy hI 6 (by decide) (by simp) hk hbS ⟨fun e => by omega, fun e => hset, fun e => by omega⟩⟩
        clear hI hset hT hbS
        simp only [setBox]
        go_simp
      · refine Reg.GStepAt.plain (i := 7) rfl ?_
        intro x L ev w hI hk hp hA
        have e33 : ev (.tmp 33) = .pointer (some ⟨fb, 0, none⟩) := hA.val 1 _ 33 rfl (hp ⟨1, .data⟩ (by simp) rfl) rfl
        have hcc := hA.const
        clear hA hp
        refine Reg.out_value (v := .pointer (some ⟨fb, 0, none⟩)) ?_ ⟨x, rfl, Reg.PPres.refl _ _ _, Reg.PInv.light HF hI 7 (by decide) (Below.refl _ _)⟩
        go_simp
      · refine Reg.GStepAt.plain (i := 8) rfl ?_
        intro x L ev w hI hk hp hA
        have e38 : ev (.tmp 38) = .pointer (some ⟨fb, 0, none⟩) := hA.val 7 _ 38 rfl (hp ⟨7, .data⟩ (by simp) rfl) rfl
        have hcc := hA.const
        clear hA hp
        refine Reg.out_value (v := .pointer (some ⟨fb, 5, none⟩)) ?_ ⟨x, rfl, Reg.PPres.refl _ _ _, Reg.PInv.light HF hI 8 (by decide) (Below.refl _ _)⟩
        go_simp
      · refine Reg.GStepAt.plain (i := 9) rfl ?_
        intro x L ev w hI hk hp hA
        have e39 : ev (.tmp 39) = .pointer (some ⟨fb, 5, none⟩) := hA.val 8 _ 39 rfl (hp ⟨8, .data⟩ (by simp) rfl) rfl
        have hcc := hA.const
        have L6 : L.getD 6 false = true := hp ⟨6, .chain⟩ (by simp) rfl
        clear hA hp
        have hx : x = 1 := hI.1.trans (Reg.cnt_one2 L6 (Reg.getD_true hk))
        have hT := hI.2.2.2.1 hx
        obtain ⟨c5, y5⟩ := hT.get 5 _ rfl
        have hset := hT.set 5 (.int .i64 3)
        have hbS : But (fun j => j = fb) w (w.setCell ⟨fb, 5, none⟩ (.int .i64 3)) := (But.refl (fun j => j = fb) w).set1 fb 5 rfl _
        refine Reg.out_skipP (w' := w.setCell ⟨fb, 5, none⟩ (.int .i64 3)) ?_ ⟨x + 1, trivial, Reg.PPres.heavy hbS, Reg.PInv.heavy hI 9 (by decide) (by simp) hk hbS ⟨fun e => by omega, fun e => by omega, fun e => hset⟩⟩
        clear hI hset hT hbS
        go_simp
      intro gx L act wz hall hI hF
      have g32 : act.eval (.tmp 32) = .pointer (some ⟨fb, 0, none⟩) := hF.val 0 _ 32 rfl (hall 0 (by simp)) rfl
      have g33 : act.eval (.tmp 33) = .pointer (some ⟨fb, 0, none⟩) := hF.val 1 _ 33 rfl (hall 1 (by simp)) rfl
      have g34 : act.eval (.tmp 34) = .agg #[.int .u64 cver, .int .i64 cn, .slice a3 cl k3] := hF.val 2 _ 34 rfl (hall 2 (by simp)) rfl
      have g35 : act.eval (.tmp 35) = .pointer (some ⟨fb, 0, none⟩) := hF.val 3 _ 35 rfl (hall 3 (by simp)) rfl
      have g36 : act.eval (.tmp 36) = .pointer (some ⟨fb, 11, none⟩) := hF.val 4 _ 36 rfl (hall 4 (by simp)) rfl
      have g37 : act.eval (.tmp 37) = .pointer (some ⟨fb, 14, none⟩) := hF.val 5 _ 37 rfl (hall 5 (by simp)) rfl
      have g38 : act.eval (.tmp 38) = .pointer (some ⟨fb, 0, none⟩) := hF.val 7 _ 38 rfl (hall 7 (by simp)) rfl
      have g39 : act.eval (.tmp 39) = .pointer (some ⟨fb, 5, none⟩) := hF.val 8 _ 39 rfl (hall 8 (by simp)) rfl
      have hact := hF.act [32, 33, 34, 35, 36, 37, 38, 39] (by kernel_rfl)
      obtain ⟨hxz, hBz, hFz⟩ := Reg.PInv.done hI (fun j hj => hall j (by simp at hj ⊢; omega))
      clear hF hall
      simp only [List.foldl_cons, List.foldl_nil] at hact
      rw [g32, g33, g34, g35, g36, g37, g38, g39] at hact
      clear g32 g33 g34 g35 g36 g37 g38 g39
      simp only [List.setIfInBounds_toArray, List.set_cons_succ, List.set_cons_zero] at hact
      subst hact
      obtain ⟨hB5, hM5, hS5, hS05, hS15, hi0, hi1, hbw, hPf, hd, hPl, hOl⟩ := HB5.out
      obtain ⟨hn3, hs1, hs2, hs3, hnb, hcl⟩ := hn3'.out
      have hB6 := hFz.2.2 rfl
      have FIN := hidq (rdEnd_of (w := w) (P := P) (F' := F2) [] (hM5.but hBz (fun k hk e => hOf (e ▸ hk))) (hbw.then hBz (fun j _ e => e ▸ hPf)) hPf hB6 (by rw [HF3.out, ← hcl]; rfl) hOf
        (by rw [HF3.out]; exact hS05.but hBz (fun j hj => (hi0 j hj).2)) (fun j hj => ⟨(hi0 j hj).2, fun e => hd _ e (hi0 j hj).1, .inl (hi0 j hj).1⟩)
        (by rw [HF3.out]; exact hS5.but hBz (fun j hj e => by have := hn3 j hj; have := hPl _ hPf; omega)) (fun j hj => by have := hn3 j hj; exact ⟨fun e => by have := hPl _ hPf; omega, fun e => by have := hOl _ e; omega, .inr (by omega)⟩))
      clear hB5 hM5 hS5 hS05 hS15 hi0 hi1 hbw hPf hd hPl hOl hn3 hs1 hs2 hs3 hnb hB6 hBz hFz HB5 FC HF hxz
      go_wp2
      go_end0
      exact FIN.out
    · have t1 : (cn == want) = false := by simpa using hyes
      have t2 : decide (cn = want) = false := decide_eq_false hyes
      have hg : ∀ nq pc', F2 = { F with empty := e2, seen := F.seen + 1, pc := pc' } → ∀ s, s.foldl (fun l p => l.set p.1 p.2) ((F.l a0 k0 a1 k1).set 10 (.bool e2)) = F2.l a0 k0 a1 k1 → RdEnd b fb O P M F2 w (.returned (.tuple #[])) (setBox (W5.drewN nq) fb s) := fun nq pc' hF3 s hl => by
        obtain ⟨hB5, hM5, hS5, hS05, hS15, hi0, hi1, hbw, hPf, hd, hPl, hOl⟩ := HB5.out
        have hq : Below W5.heap.size W5 (W5.drewN nq) := below_drewN (Below.refl _ _) nq
        exact rdEnd_of (w := w) (P := P) (F' := F2) s (hM5.below hq) (hbw.then (But.of_below (S := fun _ => False) hq) (fun j _ e => False.elim e)) hPf (hB5.below hq) hl hOf
          (by rw [hF3]; exact hS05.below hq) (fun j hj => ⟨(hi0 j hj).2, fun e => hd _ e (hi0 j hj).1, .inl (hi0 j hj).1⟩)
          (by rw [hF3]; exact hS15.below hq) (fun j hj => ⟨(hi1 j hj).2, fun e => hd _ e (hi1 j hj).1, .inl (hi1 j hj).1⟩)
      have HGN := hidq hg
      have hF2n : F2 = { F with empty := e2, seen := F.seen + 1, pc := if F.seen + 1 = k then 4 else F.pc } := by
        rw [← hF2, kLook_no (by rw [hat, hcv]; exact hyes), hat, hcv, ← hE2]
      have HFn := hidq hF2n
      clear hg hF2n hF2 hat hcv hB5 hb45 hBc5 hQ5 hs5 hE2 h hf hd hb1 hBq hb13 hb03 hBc hb04 hf4 hM4 hQ4 hS4 hS3 hn3 hb3 hB4 hS04 hS14 hi0 hi1 HB2 HH hs1 hs2 hs3 hk hcl hyes HB5 FC hb4
      by_cases hlast : F.seen + 1 = k
      · have HGL := hidq (fun nq => HGN.out nq 4 (by rw [HFn.out, if_pos hlast]) [(7, .int .i64 (F.seen + 1)), (5, .int .i64 4)] (by rw [HFn.out, if_pos hlast]; rfl))
        have HLL := hidq hlast
        have hsb0 : 0 ≤ F.seen := hs.1
        have hsb1 : F.seen ≤ 100 := hs.2
        have tk : (F.seen + 1 == k) = true := by simpa using hlast
        clear HGN HFn hlast hs
        subst he2
        go_wp2_with fail
        go_quiet (fail)
        go_wp2
        go_end0
        exact HGL.out nq
      · have HGL := hidq (fun nq => HGN.out nq F.pc (by rw [HFn.out, if_neg hlast]) [(7, .int .i64 (F.seen + 1))] (by rw [HFn.out, if_neg hlast]; rfl))
        have hsb0 : 0 ≤ F.seen := hs.1
        have hsb1 : F.seen ≤ 100 := hs.2
        have tk : (F.seen + 1 == k) = false := by simpa using hlast
        have tk2 : decide (F.seen + 1 = k) = false := decide_eq_false hlast
        clear HGN HFn hlast hs
        subst he2
        go_wp2_with fail
        go_quiet (fail)
        go_wp2
        go_end0
        exact HGL.out nq
  · rw [hem] at f10
    obtain ⟨e2, he2⟩ : ∃ e2 : Bool, e2 = true := ⟨_, rfl⟩
    obtain ⟨W5, hW5⟩ : ∃ W5, W4.setCell ⟨fb, 10, none⟩ (.bool e2) = W5 := ⟨_, rfl⟩
    have hB5 := hB4.set 10 (.bool e2)
    have hb45 : But (fun j => j = fb) W4 (W4.setCell ⟨fb, 10, none⟩ (.bool e2)) := (But.refl (fun j => j = fb) W4).set1 fb 10 rfl _
    rw [hW5] at hB5 hb45
    have hBc5 := hBc.but hb45 (fun e => hne1 e.symm)
    have hQ5 := hQ4.but hb45 (fun e => hne2 e.symm)
    have hs5 : W5.heap.size = W4.heap.size := by rw [← hW5, World.size_setCell]
    have HB5 := hidq (And.intro hB5 (And.intro (hM4.but hb45 (fun k hk e => hOf (e ▸ hk))) (And.intro (hS4.but hb45 (fun j hj e => by have := hn3 j hj; omega)) (And.intro (hS04.but hb45 (fun j hj => (hi0 j hj).2)) (And.intro (hS14.but hb45 (fun j hj => (hi1 j hj).2)) (And.intro hi0 (And.intro hi1 (And.intro ((But.of_below hb04).then hb45 (fun j _ e => (e ▸ hf.ob : P j))) (And.intro hf.ob (And.intro hd (And.intro hf.lt h.lt)))))))))))
    have FC := hidq (fun W (hW : But (fun j => j = fb) W5 W) => (show W.cell? ⟨cb, 0, none⟩ = some (.int .u64 cver) ∧ W.cell? ⟨cb, 1, none⟩ = some (.int .i64 cn) ∧ W.cell? ⟨cb, 2, none⟩ = some (.slice a3 cl k3) from by
      have q := hBc5.but hW (fun e => hne1 e.symm)
      exact ⟨(q.get 0 _ rfl).1, (q.get 1 _ rfl).1, (q.get 2 _ rfl).1⟩))
    have hE2 : (F.empty || decide (cn = 0)) = e2 := by rw [he2, hem]; rfl
    have b15 := (hBc5.get 1 _ rfl).1
    have hbl5 := hBc5.lt
    have m05 := (hQ5.get 0 _ rfl).1
    have hql5 := hQ5.lt
    obtain ⟨g7, z7⟩ := hB5.get 7 _ rfl
    obtain ⟨g5, z5⟩ := hB5.get 5 _ rfl
    have hfl5 := hB5.lt
    by_cases hyes : cn = want
    · have hF3 : F2 = { F with empty := e2, c1 := ⟨cver, cn, cL⟩, pc := 3 } := by
        rw [← hF2, kLook_yes (by rw [hat, hcv]; exact hyes), hat, hcv, ← hE2]
      have HF3 := hidq hF3
      have hn3' := hidq (And.intro hn3 (And.intro hs1 (And.intro hs2 (And.intro hs3 (And.intro hnb hcl)))))
      subst hyes
      have t1 : (cn == cn) = true := by simp
      clear hF3 hF2 hat hcv hB5 hb45 hBc5 hQ5 hs5 hE2 h hf hd hb1 hBq hb13 hb03 hBc hb04 hf4 hM4 hQ4 hS4 hS3 hn3 hb3 hB4 hS04 hS14 hi0 hi1 HB2 HH hs1 hs2 hs3 hk hs hcl hb4
      have hW5t : W4.setCell ⟨fb, 10, none⟩ (.bool true) = W5 := by rw [← hW5, he2]
      have HW5t := hidq hW5t
      clear hW5t
      go_wp2_with fail
      rw [HW5t.out]
      clear HW5t
      clear hW5 he2 f10 y10 f7 y7 f5 y5 f14 y14 f15 y15 f16 y16 b0 b1 b2 m0 hfl hbl hql hfp hW4 hW1
      have HF : ∀ x w w', Below w.heap.size w w' → (fun x w => (x = 0 → BoxAt w fb ((F.l a0 k0 a1 k1).set 10 (.bool e2))) ∧ (x = 1 → BoxAt w fb (((((F.l a0 k0 a1 k1).set 10 (.bool e2)).set 14 (.int .u64 cver)).set 15 (.int .i64 cn)).set 16 (.slice a3 cl k3))) ∧ (x = 2 → BoxAt w fb ((((((F.l a0 k0 a1 k1).set 10 (.bool e2)).set 14 (.int .u64 cver)).set 15 (.int .i64 cn)).set 16 (.slice a3 cl k3)).set 5 (.int .i64 3)))) x w → (fun x w => (x = 0 → BoxAt w fb ((F.l a0 k0 a1 k1).set 10 (.bool e2))) ∧ (x = 1 → BoxAt w fb (((((F.l a0 k0 a1 k1).set 10 (.bool e2)).set 14 (.int .u64 cver)).set 15 (.int .i64 cn)).set 16 (.slice a3 cl k3))) ∧ (x = 2 → BoxAt w fb ((((((F.l a0 k0 a1 k1).set 10 (.bool e2)).set 14 (.int .u64 cver)).set 15 (.int .i64 cn)).set 16 (.slice a3 cl k3)).set 5 (.int .i64 3)))) x w' := fun x w w' hb hh => ⟨fun e => (hh.1 e).below hb, fun e => (hh.2.1 e).below hb, fun e => (hh.2.2 e).below hb⟩
      refine Reg.wp_region_ghost (Reg.gofList (klook4R fb cl k3 a3 cver cn)) (Reg.PPres (fun j => j = fb)) (Reg.PInv [6, 9] (fun j => j = fb) W5 (fun x w => (x = 0 → BoxAt w fb ((F.l a0 k0 a1 k1).set 10 (.bool e2))) ∧ (x = 1 → BoxAt w fb (((((F.l a0 k0 a1 k1).set 10 (.bool e2)).set 14 (.int .u64 cver)).set 15 (.int .i64 cn)).set 16 (.slice a3 cl k3))) ∧ (x = 2 → BoxAt w fb ((((((F.l a0 k0 a1 k1).set 10 (.bool e2)).set 14 (.int .u64 cver)).set 15 (.int .i64 cn)).set 16 (.slice a3 cl k3)).set 5 (.int .i64 3))))) 0 (by kernel_rfl) (by kernel_rfl) (Reg.GAllKept.at _ (klook4R_kept fb cl k3 a3 cver cn)) (Reg.PInv.start 10 ⟨fun _ => HB5.out.1.drew, (fun e => by cases e), (fun e => by cases e)⟩) ⟨?_, ?_, ?_, ?_, ?_, ?_, ?_, ?_, ?_, ?_, trivial⟩ ?_
      · refine Reg.GStepAt.plain (i := 0) rfl ?_
        intro x L ev w hI hk hp hA
        have e2 : ev (.tmp 2) = .pointer (some ⟨fb, 0, none⟩) := hA.oldNone 2 (by kernel_rfl)
        have hcc := hA.const
        clear hA hp
        refine Reg.out_value (v := .pointer (some ⟨fb, 0, none⟩)) ?_ ⟨x, rfl, Reg.PPres.refl _ _ _, Reg.PInv.light HF hI 0 (by decide) (Below.refl _ _)⟩
        go_simp
      · refine Reg.GStepAt.plain (i := 1) rfl ?_
        intro x L ev w hI hk hp hA
        have e2 : ev (.tmp 2) = .pointer (some ⟨fb, 0, none⟩) := hA.oldNone 2 (by kernel_rfl)
        have hcc := hA.const
        clear hA hp
        refine Reg.out_value (v := .pointer (some ⟨fb, 0, none⟩)) ?_ ⟨x, rfl, Reg.PPres.refl _ _ _, Reg.PInv.light HF hI 1 (by decide) (Below.refl _ _)⟩
        go_simp
      · refine Reg.GStepAt.plain (i := 2) rfl ?_
        intro x L ev w hI hk hp hA
        have e8 : ev (.tmp 8) = .pointer (some ⟨cb, 0, none⟩) := hA.oldNone 8 (by kernel_rfl)
        have hcc := hA.const
        clear hA hp
        have f0 := (FC.out w hI.2.1).1
        have f1 := (FC.out w hI.2.1).2.1
        have f2 := (FC.out w hI.2.1).2.2
        refine Reg.out_value (v := .agg #[.int .u64 cver, .int .i64 cn, .slice a3 cl k3]) ?_ ⟨x, rfl, Reg.PPres.refl _ _ _, Reg.PInv.light HF hI 2 (by decide) (Below.refl _ _)⟩
        go_simp
      · refine Reg.GStepAt.plain (i := 3) rfl ?_
        intro x L ev w hI hk hp hA
        have e32 : ev (.tmp 32) = .pointer (some ⟨fb, 0, none⟩) := hA.val 0 _ 32 rfl (hp ⟨0, .data⟩ (by simp) rfl) rfl
        have hcc := hA.const
        clear hA hp
        refine Reg.out_value (v := .pointer (some ⟨fb, 0, none⟩)) ?_ ⟨x, rfl, Reg.PPres.refl _ _ _, Reg.PInv.light HF hI 3 (by decide) (Below.refl _ _)⟩
        go_simp
      · refine Reg.GStepAt.plain (i := 4) rfl ?_
        intro x L ev w hI hk hp hA
        have e35 : ev (.tmp 35) = .pointer (some ⟨fb, 0, none⟩) := hA.val 3 _ 35 rfl (hp ⟨3, .data⟩ (by simp) rfl) rfl
        have hcc := hA.const
        clear hA hp
        refine Reg.out_value (v := .pointer (some ⟨fb, 11, none⟩)) ?_ ⟨x, rfl, Reg.PPres.refl _ _ _, Reg.PInv.light HF hI 4 (by decide) (Below.refl _ _)⟩
        go_simp
      · refine Reg.GStepAt.plain (i := 5) rfl ?_
        intro x L ev w hI hk hp hA
        have e36 : ev (.tmp 36) = .pointer (some ⟨fb, 11, none⟩) := hA.val 4 _ 36 rfl (hp ⟨4, .data⟩ (by simp) rfl) rfl
        have hcc := hA.const
        clear hA hp
        refine Reg.out_value (v := .pointer (some ⟨fb, 14, none⟩)) ?_ ⟨x, rfl, Reg.PPres.refl _ _ _, Reg.PInv.light HF hI 5 (by decide) (Below.refl _ _)⟩
        go_simp
      · refine Reg.GStepAt.plain (i := 6) rfl ?_
        intro x L ev w hI hk hp hA
        have e37 : ev (.tmp 37) = .pointer (some ⟨fb, 14, none⟩) := hA.val 5 _ 37 rfl (hp ⟨5, .data⟩ (by simp) rfl) rfl
        have e34 : ev (.tmp 34) = .agg #[.int .u64 cver, .int .i64 cn, .slice a3 cl k3] := hA.val 2 _ 34 rfl (hp ⟨2, .data⟩ (by simp) rfl) rfl
        have hcc := hA.const
        have NL := Reg.not_listed hA 6 9 _ rfl ⟨6, .chain⟩ (by simp) rfl hk
        clear hA hp
        have hx : x = 0 := hI.1.trans (Reg.cnt_zero2 (Reg.getD_true hk) NL)
        have hT := hI.2.2.1 hx
        obtain ⟨c14, y14⟩ := hT.get 14 _ rfl
        obtain ⟨c15, y15⟩ := hT.get 15 _ rfl
        obtain ⟨c16, y16⟩ := hT.get 16 _ rfl
        have hset := setBox_box [(14, .int .u64 cver), (15, .int .i64 cn), (16, .slice a3 cl k3)] hT
        have hbS := setBox_but fb [(14, .int .u64 cver), (15, .int .i64 cn), (16, .slice a3 cl k3)] w
        refine Reg.out_skipP (w' := setBox w fb [(14, .int .u64 cver), (15, .int .i64 cn), (16, .slice a3 cl k3)]) ?_ ⟨x + 1, trivial, Reg.PPres.heavy hbS, Reg.PInv.heavy hI 6 (by decide) (by simp) hk hbS ⟨fun e => by omega, fun e => hset, fun e => by omega⟩⟩
        clear hI hset hT hbS
        simp only [setBox]
        go_simp
      · refine Reg.GStepAt.plain (i := 7) rfl ?_
        intro x L ev w hI hk hp hA
        have e33 : ev (.tmp 33) = .pointer (some ⟨fb, 0, none⟩) := hA.val 1 _ 33 rfl (hp ⟨1, .data⟩ (by simp) rfl) rfl
        have hcc := hA.const
        clear hA hp
        refine Reg.out_value (v := .pointer (some ⟨fb, 0, none⟩)) ?_ ⟨x, rfl, Reg.PPres.refl _ _ _, Reg.PInv.light HF hI 7 (by decide) (Below.refl _ _)⟩
        go_simp
      · refine Reg.GStepAt.plain (i := 8) rfl ?_
        intro x L ev w hI hk hp hA
        have e38 : ev (.tmp 38) = .pointer (some ⟨fb, 0, none⟩) := hA.val 7 _ 38 rfl (hp ⟨7, .data⟩ (by simp) rfl) rfl
        have hcc := hA.const
        clear hA hp
        refine Reg.out_value (v := .pointer (some ⟨fb, 5, none⟩)) ?_ ⟨x, rfl, Reg.PPres.refl _ _ _, Reg.PInv.light HF hI 8 (by decide) (Below.refl _ _)⟩
        go_simp
      · refine Reg.GStepAt.plain (i := 9) rfl ?_
        intro x L ev w hI hk hp hA
        have e39 : ev (.tmp 39) = .pointer (some ⟨fb, 5, none⟩) := hA.val 8 _ 39 rfl (hp ⟨8, .data⟩ (by simp) rfl) rfl
        have hcc := hA.const
        have L6 : L.getD 6 false = true := hp ⟨6, .chain⟩ (by simp) rfl
        clear hA hp
        have hx : x = 1 := hI.1.trans (Reg.cnt_one2 L6 (Reg.getD_true hk))
        have hT := hI.2.2.2.1 hx
        obtain ⟨c5, y5⟩ := hT.get 5 _ rfl
        have hset := hT.set 5 (.int .i64 3)
        have hbS : But (fun j => j = fb) w (w.setCell ⟨fb, 5, none⟩ (.int .i64 3)) := (But.refl (fun j => j = fb) w).set1 fb 5 rfl _
        refine Reg.out_skipP (w' := w.setCell ⟨fb, 5, none⟩ (.int .i64 3)) ?_ ⟨x + 1, trivial, Reg.PPres.heavy hbS, Reg.PInv.heavy hI 9 (by decide) (by simp) hk hbS ⟨fun e => by omega, fun e => by omega, fun e => hset⟩⟩
        clear hI hset hT hbS
        go_simp
      intro gx L act wz hall hI hF
      have g32 : act.eval (.tmp 32) = .pointer (some ⟨fb, 0, none⟩) := hF.val 0 _ 32 rfl (hall 0 (by simp)) rfl
      have g33 : act.eval (.tmp 33) = .pointer (some ⟨fb, 0, none⟩) := hF.val 1 _ 33 rfl (hall 1 (by simp)) rfl
      have g34 : act.eval (.tmp 34) = .agg #[.int .u64 cver, .int .i64 cn, .slice a3 cl k3] := hF.val 2 _ 34 rfl (hall 2 (by simp)) rfl
      have g35 : act.eval (.tmp 35) = .pointer (some ⟨fb, 0, none⟩) := hF.val 3 _ 35 rfl (hall 3 (by simp)) rfl
      have g36 : act.eval (.tmp 36) = .pointer (some ⟨fb, 11, none⟩) := hF.val 4 _ 36 rfl (hall 4 (by simp)) rfl
      have g37 : act.eval (.tmp 37) = .pointer (some ⟨fb, 14, none⟩) := hF.val 5 _ 37 rfl (hall 5 (by simp)) rfl
      have g38 : act.eval (.tmp 38) = .pointer (some ⟨fb, 0, none⟩) := hF.val 7 _ 38 rfl (hall 7 (by simp)) rfl
      have g39 : act.eval (.tmp 39) = .pointer (some ⟨fb, 5, none⟩) := hF.val 8 _ 39 rfl (hall 8 (by simp)) rfl
      have hact := hF.act [32, 33, 34, 35, 36, 37, 38, 39] (by kernel_rfl)
      obtain ⟨hxz, hBz, hFz⟩ := Reg.PInv.done hI (fun j hj => hall j (by simp at hj ⊢; omega))
      clear hF hall
      simp only [List.foldl_cons, List.foldl_nil] at hact
      rw [g32, g33, g34, g35, g36, g37, g38, g39] at hact
      clear g32 g33 g34 g35 g36 g37 g38 g39
      simp only [List.setIfInBounds_toArray, List.set_cons_succ, List.set_cons_zero] at hact
      subst hact
      obtain ⟨hB5, hM5, hS5, hS05, hS15, hi0, hi1, hbw, hPf, hd, hPl, hOl⟩ := HB5.out
      obtain ⟨hn3, hs1, hs2, hs3, hnb, hcl⟩ := hn3'.out
      have hB6 := hFz.2.2 rfl
      have FIN := hidq (rdEnd_of (w := w) (P := P) (F' := F2) [] (hM5.but hBz (fun k hk e => hOf (e ▸ hk))) (hbw.then hBz (fun j _ e => e ▸ hPf)) hPf hB6 (by rw [HF3.out, ← hcl]; rfl) hOf
        (by rw [HF3.out]; exact hS05.but hBz (fun j hj => (hi0 j hj).2)) (fun j hj => ⟨(hi0 j hj).2, fun e => hd _ e (hi0 j hj).1, .inl (hi0 j hj).1⟩)
        (by rw [HF3.out]; exact hS5.but hBz (fun j hj e => by have := hn3 j hj; have := hPl _ hPf; omega)) (fun j hj => by have := hn3 j hj; exact ⟨fun e => by have := hPl _ hPf; omega, fun e => by have := hOl _ e; omega, .inr (by omega)⟩))
      clear hB5 hM5 hS5 hS05 hS15 hi0 hi1 hbw hPf hd hPl hOl hn3 hs1 hs2 hs3 hnb hB6 hBz hFz HB5 FC HF hxz
      go_wp2
      go_end0
      exact FIN.out
    · have t1 : (cn == want) = false := by simpa using hyes
      have t2 : decide (cn = want) = false := decide_eq_false hyes
      have hg : ∀ nq pc', F2 = { F with empty := e2, seen := F.seen + 1, pc := pc' } → ∀ s, s.foldl (fun l p => l.set p.1 p.2) ((F.l a0 k0 a1 k1).set 10 (.bool e2)) = F2.l a0 k0 a1 k1 → RdEnd b fb O P M F2 w (.returned (.tuple #[])) (setBox (W5.drewN nq) fb s) := fun nq pc' hF3 s hl => by
        obtain ⟨hB5, hM5, hS5, hS05, hS15, hi0, hi1, hbw, hPf, hd, hPl, hOl⟩ := HB5.out
        have hq : Below W5.heap.size W5 (W5.drewN nq) := below_drewN (Below.refl _ _) nq
        exact rdEnd_of (w := w) (P := P) (F' := F2) s (hM5.below hq) (hbw.then (But.of_below (S := fun _ => False) hq) (fun j _ e => False.elim e)) hPf (hB5.below hq) hl hOf
          (by rw [hF3]; exact hS05.below hq) (fun j hj => ⟨(hi0 j hj).2, fun e => hd _ e (hi0 j hj).1, .inl (hi0 j hj).1⟩)
          (by rw [hF3]; exact hS15.below hq) (fun j hj => ⟨(hi1 j hj).2, fun e => hd _ e (hi1 j hj).1, .inl (hi1 j hj).1⟩)
      have HGN := hidq hg
      have hF2n : F2 = { F with empty := e2, seen := F.seen + 1, pc := if F.seen + 1 = k then 4 else F.pc } := by
        rw [← hF2, kLook_no (by rw [hat, hcv]; exact hyes), hat, hcv, ← hE2]
      have HFn := hidq hF2n
      clear hg hF2n hF2 hat hcv hB5 hb45 hBc5 hQ5 hs5 hE2 h hf hd hb1 hBq hb13 hb03 hBc hb04 hf4 hM4 hQ4 hS4 hS3 hn3 hb3 hB4 hS04 hS14 hi0 hi1 HB2 HH hs1 hs2 hs3 hk hcl hyes HB5 FC hb4
      by_cases hlast : F.seen + 1 = k
      · have HGL := hidq (fun nq => HGN.out nq 4 (by rw [HFn.out, if_pos hlast]) [(7, .int .i64 (F.seen + 1)), (5, .int .i64 4)] (by rw [HFn.out, if_pos hlast]; rfl))
        have HLL := hidq hlast
        have hsb0 : 0 ≤ F.seen := hs.1
        have hsb1 : F.seen ≤ 100 := hs.2
        have tk : (F.seen + 1 == k) = true := by simpa using hlast
        clear HGN HFn hlast hs
        subst he2
        go_wp2_with fail
        go_quiet (fail)
        go_wp2
        go_end0
        exact HGL.out nq
      · have HGL := hidq (fun nq => HGN.out nq F.pc (by rw [HFn.out, if_neg hlast]) [(7, .int .i64 (F.seen + 1))] (by rw [HFn.out, if_neg hlast]; rfl))
        have hsb0 : 0 ≤ F.seen := hs.1
        have hsb1 : F.seen ≤ 100 := hs.2
        have tk : (F.seen + 1 == k) = false := by simpa using hlast
        have tk2 : decide (F.seen + 1 = k) = false := decide_eq_false hlast
        clear HGN HFn hlast hs
        subst he2
        go_wp2_with fail
        go_quiet (fail)
        go_wp2
        go_end0
        exact HGL.out nq
end Go.Proofs.YtbcmilfajeanbaaGreat

namespace Go.Proofs.YtbcmilfajeanbaaGreat
open Go.RowKit Go.Sort

/-- A new box. -/
theorem one_new (w : World) (l : List Value) (t : TypeId) : ∃ W, w.alloc (.cells l.toArray t) = W ∧ Below w.heap.size w W ∧ W.heap.size = w.heap.size + 1 ∧ BoxAt W w.heap.size l :=
  ⟨_, rfl, (Below.refl _ _).alloc (Nat.le_refl _) _, by simp, BoxAt.new w l t⟩

set_option maxRecDepth 20000 in
set_option maxHeartbeats 4000000 in
theorem kmove_any (w : World) (b fb : Nat) (O P : Nat → Prop) (M : Mem) (F : Fr) (h : MemAt w b O M) (hf : FrAt w fb P F) (hd : ∀ k, O k → ¬ P k) (hs : 0 ≤ F.seg ∧ F.seg < 9223372036854775807) (hck : M.clock < 4611686018427387904) :
    Calls Tryz.prog 188 #[.pointer (some ⟨b, 0, none⟩), .pointer (some ⟨fb, 0, none⟩)] w (StepEnd b fb O P (kMove M F) w) := by
  unfold kMove
  obtain ⟨nb, hnb⟩ : ∃ nb, w.heap.size = nb := ⟨_, rfl⟩
  obtain ⟨W1, hW1', hb1, hs1, hA1⟩ := one_new w Ans.zero.l 46
  have hW1 : w.alloc (.cells #[.bool false, .float .f64 0, .int .i64 0, .int .i64 0] 46) = W1 := hW1'
  rw [hnb] at hA1 hs1
  have hsf := run_store_flt (P := Tryz.prog)
  have hf1 := hf.below hb1
  obtain ⟨a0, k0, a1, k1, hB1, _⟩ := hf1.box
  obtain ⟨f5, z5⟩ := hB1.get 5 _ rfl
  have hfl := hB1.lt
  have hft := hf1.turn (F' := { F with pc := 0 }) 5 (.int .i64 0) (fun _ _ _ _ => rfl) rfl rfl
  have hbt : But (fun j => j = fb) W1 (W1.setCell ⟨fb, 5, none⟩ (.int .i64 0)) := (But.refl (fun j => j = fb) W1).set1 fb 5 rfl _
  obtain ⟨W2, hW2⟩ : ∃ W2, W1.setCell ⟨fb, 5, none⟩ (.int .i64 0) = W2 := ⟨_, rfl⟩
  rw [hW2] at hft hbt
  have hfp := hf.lt _ hf.ob
  have hOf : ¬ O fb := fun e => hd _ e hf.ob
  have hM2 := (h.below hb1).but hbt (fun k hk e => hOf (e ▸ hk))
  have hA2 := hA1.but hbt (fun e => by omega)
  have hs2 : W2.heap.size = nb + 1 := by rw [← hW2, World.size_setCell]; exact hs1
  obtain ⟨b0, j0, b1, j1, hB2, _⟩ := hft.box
  have g6 := (hB2.get 6 _ rfl).1
  have g8 := (hB2.get 8 _ rfl).1
  have g11 := (hB2.get 11 _ rfl).1
  have hfl2 := hB2.lt
  have hWr : Calls Tryz.prog 159 #[.pointer (some ⟨b, 0, none⟩), .int .i64 F.at_, .int .u64 F.c0.ver, .agg #[.int .i64 (F.seg + 1), .slice none 0 0]] W2.drew fun e w' => e = .returned (.bool (M.can F.at_ F.c0.ver)) ∧ MemAt w' b (own' O W2.drew w') (M.write F.at_ F.c0.ver (F.seg + 1) []) ∧ But O W2.drew w' :=
    write_any b O M F.at_ F.c0.ver (F.seg + 1) none 0 [] W2.drew (hM2.but (S := fun _ => False) (But.refl _ _).drew (fun _ _ e => e)) (SlAt.nil _ _) (fun j hj => by obtain ⟨x, hx, _⟩ := hj; cases hx) (Nat.zero_le _) hck
  have HWr := hidq hWr
  have hbw : But (fun k => O k ∨ P k) w W2 := (But.of_below hb1).then hbt (fun j _ e => .inr (e ▸ hf.ob))
  have FIN := hidq (fun w3 (hM3 : MemAt w3 b (own' O W2.drew w3) (M.write F.at_ F.c0.ver (F.seg + 1) [])) (hb3 : But O W2.drew w3) => (show BoxAt w3 nb Ans.zero.l ∧ BoxAt (setBox (setBox w3 fb []) nb Ans.zero.s) nb Ans.zero.l ∧ StepEnd b fb O P (M.write F.at_ F.c0.ver (F.seg + 1) [], { F with pc := 0 }, Ans.zero, false) w (.returned (.tuple #[Ans.zero.v, .bool false])) (setBox (setBox w3 fb []) nb Ans.zero.s) from by
    have hb3' : But O W2 w3 := ⟨hb3.os, hb3.tape, hb3.output, hb3.size, hb3.block⟩
    have hs3 := hb3'.size
    have hG : Grown O w w3 (own' O W2.drew w3) := fun j hj => by
      rcases hj with e | e
      · exact .inl e
      · exact .inr ⟨by have h1 : W2.heap.size ≤ j := e.1; omega, e.2⟩
    have hnO : ¬ O nb := fun e => by have := h.lt _ e; omega
    have hA3 := hA2.but hb3' hnO
    refine ⟨hA3, stepEnd_fr (A := Ans.zero) (d := false) (F' := { F with pc := 0 }) [] hM3 hG (hft.but hb3' (fun k hk e => hd k e hk)) (Grown.refl _ w w3) (fun k hk e => ?_) (hbw.then hb3' (fun j _ e => .inl e)) hf.ob hA3 (by omega) (fun e => ?_) (fun e => by have := hf.lt _ e; omega) (fun _ _ _ _ => rfl) rfl rfl⟩
    · rcases hk with q | q
      · exact hd k q e
      · have h1 : W2.heap.size ≤ k := q.1
        have := hf.lt k e; omega
    · rcases e with q | q
      · exact hnO q
      · have h1 : W2.heap.size ≤ nb := q.1
        omega))
  clear h hf hd hf1 hb1 hs1 hA1 hB1 hft hbt hM2 hA2 hs2 hB2 hWr hbw hW1' hfp hOf hck
  obtain ⟨hs0, hs1⟩ := hs
  go_enter Tryz.func188, Tryz.ntmps188
  go_wp2_with fail
  go_still_tail 17, (by kernel_rfl)
  generalize M.can F.at_ F.c0.ver = can at *
  clear hW2 hW1 f5 z5
  go_wp2_with fail
  refine HWr.out.mono ?_
  rintro e w3 ⟨rfl, hM3, hb3⟩
  obtain ⟨hA3, hA4, hE⟩ := FIN.out w3 hM3 hb3
  obtain ⟨q0, x0⟩ := hA3.get 0 _ rfl
  obtain ⟨q1, x1⟩ := hA3.get 1 _ rfl
  obtain ⟨q2, x2⟩ := hA3.get 2 _ rfl
  obtain ⟨q3, x3⟩ := hA3.get 3 _ rfl
  have hal := hA3.lt
  have HE := hidq (And.intro hA4 hE)
  clear hM3 hb3 hA3 hA4 hE HWr FIN g6 g8 g11 hfl2 hfl
  go_wp2
  exact ret_ans (A := Ans.zero) Tryz.results188 HE.out.1 rfl rfl rfl HE.out.2

def kwrite2R (b fb _nb n cap : Nat) (F : Fr) (k x at_ : Int) (a : Option Addr) : List (Value → World → Prop) :=
  [fun v _ => v = .pointer (some ⟨b, 0, none⟩),
   fun v _ => v = .agg #[.int .i64 k],
   fun v _ => v = .pointer (some ⟨fb, 0, none⟩),
   fun v _ => v = .int .i64 at_,
   fun v _ => v = .pointer (some ⟨fb, 0, none⟩),
   fun v _ => v = .pointer (some ⟨fb, 0, none⟩),
   fun v _ => v = .pointer (some ⟨fb, 11, none⟩),
   fun v _ => v = .pointer (some ⟨fb, 14, none⟩),
   fun v _ => v = .pointer (some ⟨fb, 14, none⟩),
   fun v _ => v = .int .u64 F.c1.ver,
   fun v _ => v = .agg #[.int .i64 x, .slice a n cap]]
theorem kwrite2R_kept (b fb nb n cap : Nat) (F : Fr) (k x at_ : Int) (a : Option Addr) : Reg.AllKept Reg.Keeps (kwrite2R b fb nb n cap F k x at_ a) :=
  ⟨(fun _ _ _ _ h => h), (fun _ _ _ _ h => h), (fun _ _ _ _ h => h), (fun _ _ _ _ h => h), (fun _ _ _ _ h => h), (fun _ _ _ _ h => h), (fun _ _ _ _ h => h), (fun _ _ _ _ h => h), (fun _ _ _ _ h => h), (fun _ _ _ _ h => h), (fun _ _ _ _ h => h), trivial⟩

set_option maxRecDepth 20000 in
set_option maxHeartbeats 8000000 in
theorem kwrite_any (k x : Int) (w : World) (b fb : Nat) (O P : Nat → Prop) (M : Mem) (F : Fr) (a : Option Addr) (cap n : Nat) (L : List It) (pp : Nat) (pv : Int) (h : MemAt w b O M) (hf : FrAt w fb P F) (hd : ∀ k, O k → ¬ P k) (hk : 1 ≤ k ∧ k ≤ 16) (hs : 0 ≤ F.seen ∧ F.seen ≤ 100) (hn : L.length = n) (hS : SlAt 2 w a cap n (flatI L)) (hOa : ∀ j, inB a j → ¬ O j ∧ j ≠ fb) (hL : n ≤ 1000000) (hck : M.clock < 4611686018427387904) :
    Calls Tryz.prog 187 #[.agg #[.int .i64 k], .pointer (some ⟨b, 0, none⟩), .pointer (some ⟨fb, 0, none⟩), .agg #[.int .i64 x, .slice a n cap], .agg #[.float .f64 pp, .int .i64 pv]] w (StepEnd b fb O P (kWrite k x L pp pv M F) w) := by
  obtain ⟨nb, hnb⟩ : ∃ nb, w.heap.size = nb := ⟨_, rfl⟩
  obtain ⟨V1, hV1', hv1, hz1, hQ1⟩ := one_new w [.int .i64 k] 151
  obtain ⟨V2, hV2', hv2, hz2, hX2⟩ := one_new V1 [.int .i64 x, .slice a n cap] 92
  obtain ⟨V3, hV3', hv3, hz3, hI3⟩ := one_new V2 [.float .f64 pp, .int .i64 pv] 40
  obtain ⟨W1, hW1', hv4, hz4, hA4⟩ := one_new V3 Ans.zero.l 46
  have hV1 : w.alloc (.cells #[.int .i64 k] 151) = V1 := hV1'
  have hV2 : V1.alloc (.cells #[.int .i64 x, .slice a n cap] 92) = V2 := hV2'
  have hV3 : V2.alloc (.cells #[.float .f64 pp, .int .i64 pv] 40) = V3 := hV3'
  have hW1 : V3.alloc (.cells #[.bool false, .float .f64 0, .int .i64 0, .int .i64 0] 46) = W1 := hW1'
  rw [hnb] at hQ1 hz1
  rw [hz1] at hX2 hz2
  rw [hz2] at hI3 hz3
  rw [hz3] at hA4 hz4
  have hb12 : Below w.heap.size w V2 := hv1.trans (hv2.mono (by omega))
  have hb13 : Below w.heap.size w V3 := hb12.trans (hv3.mono (by omega))
  have hb1 : Below w.heap.size w W1 := hb13.trans (hv4.mono (by omega))
  have hQ := ((hQ1.below hv2).below hv3).below hv4
  have hX := (hX2.below hv3).below hv4
  have hIt := hI3.below hv4
  have hsf := run_store_flt (P := Tryz.prog)
  have hf1 := hf.below hb1
  obtain ⟨a0, k0, a1, k1, hB1, _⟩ := hf1.box
  obtain ⟨f5, z5⟩ := hB1.get 5 _ rfl
  have hfl := hB1.lt
  have hft := hf1.turn (F' := { F with pc := 0 }) 5 (.int .i64 0) (fun _ _ _ _ => rfl) rfl rfl
  have hbt : But (fun j => j = fb) W1 (W1.setCell ⟨fb, 5, none⟩ (.int .i64 0)) := (But.refl (fun j => j = fb) W1).set1 fb 5 rfl _
  obtain ⟨W2, hW2⟩ : ∃ W2, W1.setCell ⟨fb, 5, none⟩ (.int .i64 0) = W2 := ⟨_, rfl⟩
  rw [hW2] at hft hbt
  have hfp := hf.lt _ hf.ob
  have hOf : ¬ O fb := fun e => hd _ e hf.ob
  have hM2 := (h.below hb1).but hbt (fun k hk e => hOf (e ▸ hk))
  have hQ2 := hQ.but hbt (fun e => by omega)
  have hX3 := hX.but hbt (fun e => by omega)
  have hI4 := hIt.but hbt (fun e => by omega)
  have hA2 := hA4.but hbt (fun e => by omega)
  have hS2 := (hS.below hb1).but hbt (fun j hj => (hOa j hj).2)
  have hs2 : W2.heap.size = nb + 4 := by rw [← hW2, World.size_setCell]; omega
  obtain ⟨b0, j0, b1, j1, hB2, _⟩ := hft.box
  have hbw : But (fun k => O k ∨ P k) w W2 := (But.of_below hb1).then hbt (fun j _ e => .inr (e ▸ hf.ob))
  have hFb : ∀ W, Below W2.heap.size W2 W → BoxAt W fb (({ F with pc := 0 } : Fr).l b0 j0 b1 j1) := fun W hW => hB2.below hW
  obtain ⟨at_, hat⟩ : ∃ at_, kAt k F = at_ := ⟨_, rfl⟩
  have hAt := hidq (fun W (hW : Below W2.heap.size W2 W) => (show Calls Tryz.prog 189 #[.agg #[.int .i64 k], .pointer (some ⟨fb, 0, none⟩)] W fun e w' => e = .returned (.int .i64 at_) ∧ Below W.heap.size W w' from by
    have hB := hFb W hW
    have := kat_any k W fb F hk hB.lt (hB.get 3 _ rfl).1 (hB.get 7 _ rfl).1 (hB.get 8 _ rfl).1 hs
    rw [hat] at this
    exact this))
  have FC := hidq (fun W (hW : Below W2.heap.size W2 W) => And.intro ((hFb W hW).get 14 _ rfl).1 (And.intro ((hQ2.below hW).get 0 _ rfl).1 (And.intro ((hX3.below hW).get 0 _ rfl).1 ((hX3.below hW).get 1 _ rfl).1)))
  obtain ⟨r, hr⟩ : ∃ r, kWrite k x L pp pv M F = r := ⟨_, rfl⟩
  rw [hr]
  have hr2 : r = (M.write at_ F.c1.ver x L, { F with pc := 0 }, if M.can at_ F.c1.ver = true then ⟨true, pp, pv, 0⟩ else Ans.zero, M.can at_ F.c1.ver) := by rw [← hr]; unfold kWrite; rw [hat]
  have HR := hidq hr2
  subst hn
  have HWr := hidq (fun W (hW : Below W2.heap.size W2 W) => write_any b O M at_ F.c1.ver x a cap L W (hM2.below hW) (hS2.below hW) (fun j hj => (hOa j hj).1) hL hck)
  obtain ⟨can, hcan⟩ : ∃ can, M.can at_ F.c1.ver = can := ⟨_, rfl⟩
  rw [hcan] at HWr HR
  have FIN := hidq (fun (W w3 : World) (A : Ans) (hW : Below W2.heap.size W2 W) (hM3 : MemAt w3 b (own' O W w3) (M.write at_ F.c1.ver x L)) (hb3 : But O W w3) => (show BoxAt w3 (nb + 3) Ans.zero.l ∧ BoxAt w3 (nb + 2) [.float .f64 pp, .int .i64 pv] ∧ BoxAt (setBox (setBox w3 fb []) (nb + 3) A.s) (nb + 3) A.l ∧ StepEnd b fb O P (M.write at_ F.c1.ver x L, { F with pc := 0 }, A, can) w (.returned (.tuple #[A.v, .bool can])) (setBox (setBox w3 fb []) (nb + 3) A.s) from by
    have hb3' : But O W2 w3 := (But.of_below hW).then hb3 (fun j _ e => e)
    have hs3 := hb3'.size
    have hsW := hW.size
    have hG : Grown O w w3 (own' O W w3) := fun j hj => by
      rcases hj with e | e
      · exact .inl e
      · exact .inr ⟨by omega, e.2⟩
    have hnO : ¬ O (nb + 3) := fun e => by have := h.lt _ e; omega
    have hnO2 : ¬ O (nb + 2) := fun e => by have := h.lt _ e; omega
    have hA3 := hA2.but hb3' hnO
    refine ⟨hA3, hI4.but hb3' hnO2, stepEnd_fr (A := A) (d := can) (F' := { F with pc := 0 }) [] hM3 hG (hft.but hb3' (fun k hk e => hd k e hk)) (Grown.refl _ w w3) (fun k hk e => ?_) (hbw.then hb3' (fun j _ e => .inl e)) hf.ob hA3 (by omega) (fun e => ?_) (fun e => by have := hf.lt _ e; omega) (fun _ _ _ _ => rfl) rfl rfl⟩
    · rcases hk with q | q
      · exact hd k q e
      · have := hf.lt k e; omega
    · rcases e with q | q
      · exact hnO q
      · omega))
  clear h hf hd hf1 hb1 hA4 hB1 hft hbt hM2 hA2 hs2 hB2 hbw hW1' hfp hOf hck hS hS2 hOa hL hQ hX hIt hQ2 hX3 hI4 hFb hr hr2 hat hcan hb12 hb13 hV1' hV2' hV3' hv1 hv2 hv3 hv4 hQ1 hX2 hI3 hz4
  have hrefl : ∀ w : World, Reg.Keeps w w := Reg.Keeps.refl
  obtain ⟨n, hn⟩ : ∃ n, L.length = n := ⟨_, rfl⟩
  rw [hn] at HWr FC hV2 ⊢
  clear hn
  go_enter Tryz.func187, Tryz.ntmps187
  go_wp2_with fail
  try rw [hW2]
  clear hV1 hV2 hV3 hW1 hW2 f5 z5 hz1 hz2 hz3
  have hrefl : ∀ w : World, Reg.Keeps w w := Reg.Keeps.refl
  refine Reg.wp_region_props_tail 11 (Reg.ofList (kwrite2R b fb nb n cap F k x at_ a)) Reg.Keeps (fun _ w => Reg.Keeps W2 w) (by kernel_rfl) (by kernel_rfl) (by kernel_rfl) (Reg.AllKept.at _ (kwrite2R_kept b fb nb n cap F k x at_ a)) hrefl (Reg.Keeps.drewN (Reg.Keeps.refl _) 1) ⟨?_, ?_, ?_, ?_, ?_, ?_, ?_, ?_, ?_, ?_, ?_, trivial⟩ ?_
  · refine Reg.StepAt.plain (i := 0) rfl ?_
    intro L ev w hI hk hp hA
    have e1 : ev (.tmp 1) = .pointer (some ⟨b, 0, none⟩) := hA.oldNone 1 (by kernel_rfl)
    have hcc := hA.const
    clear hA hp
    refine Reg.out_value (v := .pointer (some ⟨b, 0, none⟩)) ?_ ⟨rfl, hrefl _, hI⟩
    go_simp
  · refine Reg.StepAt.plain (i := 1) rfl ?_
    intro L ev w hI hk hp hA
    have e5 : ev (.tmp 5) = .pointer (some ⟨nb, 0, none⟩) := hA.oldNone 5 (by kernel_rfl)
    have hcc := hA.const
    clear hA hp
    obtain ⟨f14, m0, m1, m2⟩ := FC.out w hI
    refine Reg.out_value (v := .agg #[.int .i64 k]) ?_ ⟨rfl, hrefl _, hI⟩
    go_simp
  · refine Reg.StepAt.plain (i := 2) rfl ?_
    intro L ev w hI hk hp hA
    have e2 : ev (.tmp 2) = .pointer (some ⟨fb, 0, none⟩) := hA.oldNone 2 (by kernel_rfl)
    have hcc := hA.const
    clear hA hp
    refine Reg.out_value (v := .pointer (some ⟨fb, 0, none⟩)) ?_ ⟨rfl, hrefl _, hI⟩
    go_simp
  · refine Reg.StepAt.plain (i := 3) rfl ?_
    intro L ev w hI hk hp hA
    have e16 : ev (.tmp 16) = .agg #[.int .i64 k] := hA.val 1 _ 16 rfl (hp ⟨1, .data⟩ (by simp) rfl) rfl
    have e17 : ev (.tmp 17) = .pointer (some ⟨fb, 0, none⟩) := hA.val 2 _ 17 rfl (hp ⟨2, .data⟩ (by simp) rfl) rfl
    have hcc := hA.const
    have hcf := hA.func
    clear hA hp
    refine Reg.out_call (f := 189) (args := #[.agg #[.int .i64 k], .pointer (some ⟨fb, 0, none⟩)]) (w0 := w) ?_ ?_
    · go_simp
    refine (hAt.out w hI).mono ?_
    rintro e w' ⟨rfl, hb'⟩
    exact ⟨_, rfl, rfl, hb', Reg.Keeps.trans hI hb'⟩
  · refine Reg.StepAt.plain (i := 4) rfl ?_
    intro L ev w hI hk hp hA
    have e2 : ev (.tmp 2) = .pointer (some ⟨fb, 0, none⟩) := hA.oldNone 2 (by kernel_rfl)
    have hcc := hA.const
    clear hA hp
    refine Reg.out_value (v := .pointer (some ⟨fb, 0, none⟩)) ?_ ⟨rfl, hrefl _, hI⟩
    go_simp
  · refine Reg.StepAt.plain (i := 5) rfl ?_
    intro L ev w hI hk hp hA
    have e19 : ev (.tmp 19) = .pointer (some ⟨fb, 0, none⟩) := hA.val 4 _ 19 rfl (hp ⟨4, .data⟩ (by simp) rfl) rfl
    have hcc := hA.const
    clear hA hp
    refine Reg.out_value (v := .pointer (some ⟨fb, 0, none⟩)) ?_ ⟨rfl, hrefl _, hI⟩
    go_simp
  · refine Reg.StepAt.plain (i := 6) rfl ?_
    intro L ev w hI hk hp hA
    have e20 : ev (.tmp 20) = .pointer (some ⟨fb, 0, none⟩) := hA.val 5 _ 20 rfl (hp ⟨5, .data⟩ (by simp) rfl) rfl
    have hcc := hA.const
    clear hA hp
    refine Reg.out_value (v := .pointer (some ⟨fb, 11, none⟩)) ?_ ⟨rfl, hrefl _, hI⟩
    go_simp
  · refine Reg.StepAt.plain (i := 7) rfl ?_
    intro L ev w hI hk hp hA
    have e21 : ev (.tmp 21) = .pointer (some ⟨fb, 11, none⟩) := hA.val 6 _ 21 rfl (hp ⟨6, .data⟩ (by simp) rfl) rfl
    have hcc := hA.const
    clear hA hp
    refine Reg.out_value (v := .pointer (some ⟨fb, 14, none⟩)) ?_ ⟨rfl, hrefl _, hI⟩
    go_simp
  · refine Reg.StepAt.plain (i := 8) rfl ?_
    intro L ev w hI hk hp hA
    have e22 : ev (.tmp 22) = .pointer (some ⟨fb, 14, none⟩) := hA.val 7 _ 22 rfl (hp ⟨7, .data⟩ (by simp) rfl) rfl
    have hcc := hA.const
    clear hA hp
    refine Reg.out_value (v := .pointer (some ⟨fb, 14, none⟩)) ?_ ⟨rfl, hrefl _, hI⟩
    go_simp
  · refine Reg.StepAt.plain (i := 9) rfl ?_
    intro L ev w hI hk hp hA
    have e23 : ev (.tmp 23) = .pointer (some ⟨fb, 14, none⟩) := hA.val 8 _ 23 rfl (hp ⟨8, .data⟩ (by simp) rfl) rfl
    have hcc := hA.const
    clear hA hp
    obtain ⟨f14, m0, m1, m2⟩ := FC.out w hI
    refine Reg.out_value (v := .int .u64 F.c1.ver) ?_ ⟨rfl, hrefl _, hI⟩
    go_simp
  · refine Reg.StepAt.plain (i := 10) rfl ?_
    intro L ev w hI hk hp hA
    have e8 : ev (.tmp 8) = .pointer (some ⟨nb + 1, 0, none⟩) := hA.oldNone 8 (by kernel_rfl)
    have hcc := hA.const
    clear hA hp
    obtain ⟨f14, m0, m1, m2⟩ := FC.out w hI
    refine Reg.out_value (v := .agg #[.int .i64 x, .slice a n cap]) ?_ ⟨rfl, hrefl _, hI⟩
    go_simp
  intro act wz hI hF
  have g15 : act.eval (.tmp 15) = .pointer (some ⟨b, 0, none⟩) := hF.val 0 _ 15 rfl (by kernel_rfl) rfl
  have g16 : act.eval (.tmp 16) = .agg #[.int .i64 k] := hF.val 1 _ 16 rfl (by kernel_rfl) rfl
  have g17 : act.eval (.tmp 17) = .pointer (some ⟨fb, 0, none⟩) := hF.val 2 _ 17 rfl (by kernel_rfl) rfl
  have g18 : act.eval (.tmp 18) = .int .i64 at_ := hF.val 3 _ 18 rfl (by kernel_rfl) rfl
  have g19 : act.eval (.tmp 19) = .pointer (some ⟨fb, 0, none⟩) := hF.val 4 _ 19 rfl (by kernel_rfl) rfl
  have g20 : act.eval (.tmp 20) = .pointer (some ⟨fb, 0, none⟩) := hF.val 5 _ 20 rfl (by kernel_rfl) rfl
  have g21 : act.eval (.tmp 21) = .pointer (some ⟨fb, 11, none⟩) := hF.val 6 _ 21 rfl (by kernel_rfl) rfl
  have g22 : act.eval (.tmp 22) = .pointer (some ⟨fb, 14, none⟩) := hF.val 7 _ 22 rfl (by kernel_rfl) rfl
  have g23 : act.eval (.tmp 23) = .pointer (some ⟨fb, 14, none⟩) := hF.val 8 _ 23 rfl (by kernel_rfl) rfl
  have g24 : act.eval (.tmp 24) = .int .u64 F.c1.ver := hF.val 9 _ 24 rfl (by kernel_rfl) rfl
  have g25 : act.eval (.tmp 25) = .agg #[.int .i64 x, .slice a n cap] := hF.val 10 _ 25 rfl (by kernel_rfl) rfl
  have hact := hF.actHead [15, 16, 17, 18, 19, 20, 21, 22, 23, 24, 25] (by kernel_rfl)
  clear hF
  simp only [List.foldl_cons, List.foldl_nil] at hact
  rw [g15, g16, g17, g18, g19, g20, g21, g22, g23, g24, g25] at hact
  clear g15 g16 g17 g18 g19 g20 g21 g22 g23 g24 g25
  simp only [List.setIfInBounds_toArray, List.set_cons_succ, List.set_cons_zero] at hact
  subst hact
  simp only [List.drop_succ_cons, List.drop_zero]
  have hI1 : Below W2.heap.size W2 wz := hI
  have hWr := hidq (HWr.out wz hI1)
  have HI := hidq hI1
  clear HWr hI hI1 hAt FC hfl
  go_wp2_with fail
  refine hWr.out.mono ?_
  rintro e w3 ⟨rfl, hM3, hb3⟩
  cases can
  · obtain ⟨hA3, _, hA4, hE⟩ := FIN.out wz w3 Ans.zero HI.out hM3 hb3
    have HR2 := HR.out
    rw [if_neg (by decide)] at HR2
    rw [← HR2] at hE
    obtain ⟨q0, x0⟩ := hA3.get 0 _ rfl
    obtain ⟨q1, x1⟩ := hA3.get 1 _ rfl
    obtain ⟨q2, x2⟩ := hA3.get 2 _ rfl
    obtain ⟨q3, x3⟩ := hA3.get 3 _ rfl
    have hal := hA3.lt
    have HE := hidq (And.intro hA4 hE)
    clear hM3 hb3 hA3 hA4 hE hWr FIN HI HR HR2
    go_wp2
    exact ret_ans (A := Ans.zero) Tryz.results187 HE.out.1 rfl rfl rfl HE.out.2
  · obtain ⟨hA3, hIt, hA4, hE⟩ := FIN.out wz w3 ⟨true, pp, pv, 0⟩ HI.out hM3 hb3
    have HR2 := HR.out
    rw [if_pos rfl] at HR2
    rw [← HR2] at hE
    obtain ⟨q0, x0⟩ := hA3.get 0 _ rfl
    obtain ⟨q1, x1⟩ := hA3.get 1 _ rfl
    obtain ⟨q2, x2⟩ := hA3.get 2 _ rfl
    obtain ⟨q3, x3⟩ := hA3.get 3 _ rfl
    have i0 := (hIt.get 0 _ rfl).1
    have i1 := (hIt.get 1 _ rfl).1
    have hil := hIt.lt
    have hal := hA3.lt
    have HE := hidq (And.intro hA4 hE)
    clear hM3 hb3 hA3 hA4 hE hWr FIN HI HR HR2 hIt
    go_wp2
    exact ret_ans (A := ⟨true, pp, pv, 0⟩) Tryz.results187 HE.out.1 rfl rfl rfl HE.out.2
end Go.Proofs.YtbcmilfajeanbaaGreat

namespace Go.Proofs.YtbcmilfajeanbaaGreat
open Go.RowKit Go.Sort

/-- An Enq's step. -/
def kEnq (k : Int) : StepFn := fun M F =>
  if F.pc = 0 then (M, { kBegin M F 1 with pc := 2 }, Ans.zero, !kfits k (M.look 1).n)
  else if F.pc = 2 then (M, kLook k 0 M F, Ans.zero, false)
  else if F.pc = 3 then kWrite k 1 [(cbits F.pri, F.val)] (cbits F.pri) F.val M F
  else kMove M F
theorem kEnq_0 {k : Int} {M : Mem} {F : Fr} (h : F.pc = 0) : kEnq k M F = (M, { kBegin M F 1 with pc := 2 }, Ans.zero, !kfits k (M.look 1).n) := by unfold kEnq; rw [if_pos h]
theorem kEnq_2 {k : Int} {M : Mem} {F : Fr} (h : F.pc = 2) : kEnq k M F = (M, kLook k 0 M F, Ans.zero, false) := by unfold kEnq; rw [if_neg (by omega), if_pos h]
theorem kEnq_3 {k : Int} {M : Mem} {F : Fr} (h : F.pc = 3) : kEnq k M F = kWrite k 1 [(cbits F.pri, F.val)] (cbits F.pri) F.val M F := by unfold kEnq; rw [if_neg (by omega), if_neg (by omega), if_pos h]
theorem kEnq_4 {k : Int} {M : Mem} {F : Fr} (h0 : F.pc ≠ 0) (h2 : F.pc ≠ 2) (h3 : F.pc ≠ 3) : kEnq k M F = kMove M F := by unfold kEnq; rw [if_neg h0, if_neg h2, if_neg h3]

def kenq5R (fb _nb : Nat) (k sg : Int) (fi : Bool) : List (Value → Nat → World → Prop) :=
  [fun v _ _ => v = .agg #[.bool false, .float .f64 0, .int .i64 0, .int .i64 0],
   fun v _ _ => v = .agg #[.int .i64 k],
   fun v _ _ => v = .pointer (some ⟨fb, 0, none⟩),
   fun v _ _ => v = .pointer (some ⟨fb, 0, none⟩),
   fun v _ _ => v = .pointer (some ⟨fb, 8, none⟩),
   fun v _ _ => v = .int .i64 sg,
   fun v _ _ => v = .bool fi,
   fun v _ _ => v = .bool (!fi),
   fun _ _ _ => True,
   fun v _ _ => v = .bool (!fi)]
theorem kenq5R_kept (fb nb : Nat) (k sg : Int) (fi : Bool) : Reg.GAllKept (Reg.PPres (fun j => j = nb + 1)) (kenq5R fb nb k sg fi) :=
  ⟨(fun _ _ _ _ _ _ h => h), (fun _ _ _ _ _ _ h => h), (fun _ _ _ _ _ _ h => h), (fun _ _ _ _ _ _ h => h), (fun _ _ _ _ _ _ h => h), (fun _ _ _ _ _ _ h => h), (fun _ _ _ _ _ _ h => h), (fun _ _ _ _ _ _ h => h), (fun _ _ _ _ _ _ _ => trivial), (fun _ _ _ _ _ _ h => h), trivial⟩

/-- A read within a step, whose answer is zero. -/
theorem stepEnd_rd {w W1 w2 : World} {b fb ab : Nat} {O P : Nat → Prop} {M : Mem} {F' : Fr} {d : Bool} {e : Ending} (hb : Below w.heap.size w W1) (hO : ∀ k, O k → k < w.heap.size) (hP : ∀ k, P k → k < w.heap.size) (hPf : P fb)
    (h : RdEnd b fb O P M F' W1 e w2) (hA : BoxAt W1 ab Ans.zero.l) (hab : w.heap.size ≤ ab) :
    BoxAt w2 ab Ans.zero.l ∧ BoxAt (setBox w2 ab Ans.zero.s) ab Ans.zero.l ∧ StepEnd b fb O P (M, F', Ans.zero, d) w (.returned (.tuple #[Ans.zero.v, .bool d])) (setBox w2 ab Ans.zero.s) := by
  obtain ⟨_, P', h1, h2, h3, h4, h5⟩ := h
  have hal := hA.lt
  have hs := hb.size
  have hs2 := h5.size
  have hA2 := hA.but h5 (fun e => by have := hP _ e; omega)
  exact ⟨hA2, stepEnd_fr (A := Ans.zero) (d := d) (F' := F') [] h1 (Grown.refl _ _ _) h2 (fun k hk => (h4 k hk).imp id (fun e => ⟨by omega, e.2⟩)) h3 ((But.of_below hb).then h5 (fun j _ e => .inr e)) hPf hA2 hab (fun e => by have := hO _ e; omega) (fun e => by
    rcases h4 _ e with q | q
    · have := hP _ q; omega
    · omega) (fun _ _ _ _ => rfl) rfl rfl⟩

set_option maxRecDepth 20000 in
set_option maxHeartbeats 8000000 in
theorem kenq_any (k : Int) (w : World) (b fb : Nat) (O P : Nat → Prop) (M : Mem) (F : Fr) (h : MemAt w b O M) (hf : FrAt w fb P F) (hd : ∀ k, O k → ¬ P k) (hk : 1 ≤ k ∧ k ≤ 16) (hs : 0 ≤ F.seen ∧ F.seen ≤ 100) (hsg : 0 ≤ F.seg ∧ F.seg < 9223372036854775807) (hck : M.clock < 4611686018427387904) :
    Calls Tryz.prog 183 #[.agg #[.int .i64 k], .pointer (some ⟨b, 0, none⟩), .pointer (some ⟨fb, 0, none⟩)] w (StepEnd b fb O P (kEnq k M F) w) := by
  obtain ⟨nb, hnb⟩ : ∃ nb, w.heap.size = nb := ⟨_, rfl⟩
  obtain ⟨W1, hW1', hb1, hs1, hQ1, hA1⟩ := two_new w [.int .i64 k] Ans.zero.l 151 46 0
  have hW1 : (w.alloc (.cells #[.int .i64 k] 151)).alloc (.cells #[.bool false, .float .f64 0, .int .i64 0, .int .i64 0] 46) = W1 := hW1'
  clear hW1'
  rw [hnb] at hQ1 hA1 hs1
  have hsf := run_store_flt (P := Tryz.prog)
  have hf1 := hf.below hb1
  have hM1 := h.below hb1
  obtain ⟨a0, k0, a1, k1, hB1, hS01, hS11, hi0, hi1⟩ := hf1.box
  have f5 := (hB1.get 5 _ rfl).1
  have hfl := hB1.lt
  have hfp := hf.lt _ hf.ob
  have q0 := (hQ1.get 0 _ rfl).1
  have hql := hQ1.lt
  by_cases hp0 : F.pc = 0
  · rw [kEnq_0 hp0]
    have f5z : W1.cell? ⟨fb, 5, none⟩ = some (.int .i64 0) := by rw [f5, hp0]
    have hBg := hidq (kbegin_any 1 W1 b fb O P M F hM1 hf1 hd)
    have HO := hidq (And.intro h.lt (And.intro hf.lt (And.intro hd (And.intro hf.ob (And.intro hb1 (And.intro hQ1 (And.intro hA1 hs1)))))))
    have hFi := hidq (fun W => kfits_any k (M.look 1).n W hk)
    obtain ⟨sg, hsge⟩ : ∃ sg, (M.look 1).n = sg := ⟨_, rfl⟩
    rw [hsge] at hFi ⊢
    obtain ⟨fi, hfi⟩ : ∃ fi, kfits k sg = fi := ⟨_, rfl⟩
    rw [hfi] at hFi ⊢
    obtain ⟨F9, hF9⟩ : ∃ F9, ({ kBegin M F 1 with pc := 2 } : Fr) = F9 := ⟨_, rfl⟩
    rw [hF9]
    have HF9 := hidq (And.intro hF9 hsge)
    clear h hf hd hf1 hM1 hB1 hS01 hS11 hi0 hi1 hQ1 hA1 hb1 hs1 f5 hp0 hfi hF9 hsge hs hsg hck
    go_enter Tryz.func183, Tryz.ntmps183
    go_wp2_with fail
    refine hBg.out.mono ?_
    rintro e w2 ⟨rfl, P2, hM2, hF2, hd2, hG2, hb2⟩
    obtain ⟨hOl, hPl, hd, hPf, hb1, hQ1, hA1, hs1⟩ := HO.out
    obtain ⟨a0', k0', a1', k1', hB2, _⟩ := hF2.box
    obtain ⟨g5, z5⟩ := hB2.get 5 _ rfl
    have hfl2 := hB2.lt
    have hnP : ¬ P nb := fun e => by have := hPl _ e; omega
    have haP : ¬ P (nb + 1) := fun e => by have := hPl _ e; omega
    have hft := hF2.turn (F' := { kBegin M F 1 with pc := 2 }) 5 (.int .i64 2) (fun _ _ _ _ => rfl) rfl rfl
    have hbt : But (fun j => j = fb) w2 (w2.setCell ⟨fb, 5, none⟩ (.int .i64 2)) := (But.refl (fun j => j = fb) w2).set1 fb 5 rfl _
    obtain ⟨W3, hW3⟩ : ∃ W3, w2.setCell ⟨fb, 5, none⟩ (.int .i64 2) = W3 := ⟨_, rfl⟩
    rw [hW3] at hft hbt
    have hs3 : W3.heap.size = w2.heap.size := by rw [← hW3, World.size_setCell]
    have hfn : fb ≠ nb := by have := hPl _ hPf; omega
    have hfa : fb ≠ nb + 1 := by have := hPl _ hPf; omega
    have hQ3 := (hQ1.but hb2 hnP).but hbt (fun e => hfn e.symm)
    have hA3 := (hA1.but hb2 haP).but hbt (fun e => hfa e.symm)
    have hs2 := hb2.size
    obtain ⟨a0'', k0'', a1'', k1'', hB3, _⟩ := hft.box
    have g8 : W3.cell? ⟨fb, 8, none⟩ = some (.int .i64 sg) := by rw [(hB3.get 8 _ rfl).1]; show some (Value.int .i64 (M.look 1).n) = _; rw [HF9.out.2]
    have hfl3 := hB3.lt
    have hbw : But (fun k => O k ∨ P k) w W3 := ((But.of_below hb1).then hb2 (fun j _ e => .inr e)).then hbt (fun j _ e => .inr (e ▸ hPf))
    have HZ := hidq (And.intro (hM2.but hbt (fun k hk e => hd2 k hk (e ▸ hF2.ob))) (And.intro hft (And.intro hQ3 (And.intro hA3 (And.intro hd2 (And.intro (fun k hk => (show P k ∨ (w.heap.size ≤ k ∧ k < W3.heap.size) from (hG2 k hk).imp id (fun e => ⟨by omega, by omega⟩))) (And.intro hbw hOl)))))))
    have FC := hidq (fun W (hW : But (fun j => j = nb + 1) W3 W) => (show W.cell? ⟨fb, 8, none⟩ = some (.int .i64 sg) ∧ W.cell? ⟨nb, 0, none⟩ = some (.int .i64 k) from ⟨(hW.cell (p := ⟨fb, 8, none⟩) hfl3 hfa).trans g8, ((hQ3.but hW (by omega)).get 0 _ rfl).1⟩))
    have HS1 := hidq (And.intro hs1 (And.intro hs2 hs3))
    have HP2 := hidq (fun k (hk : P2 k) (e : k = nb + 1) => (show False from by
      rcases hG2 k hk with q | q
      · have := hPl _ q; omega
      · omega))
    clear hM2 hF2 hd2 hG2 hb2 hOl hPl hd hPf hb1 hQ1 hA1 hs1 hB2 hnP haP hft hbt hQ3 hA3 hB3 hbw HO hBg hs2 hs3
    go_wp2_with fail
    try rw [hW3]
    clear hW3 g5 z5 f5z q0 hql hW1
    have HF : ∀ (x : Nat) w w', Below w.heap.size w w' → (fun _ w => BoxAt w (nb + 1) Ans.zero.l) x w → (fun _ w => BoxAt w (nb + 1) Ans.zero.l) x w' := fun x w w' hb hh => BoxAt.below hh hb
    refine Reg.wp_region_ghost (Reg.gofList (kenq5R fb nb k sg fi)) (Reg.PPres (fun j => j = nb + 1)) (Reg.PInv [8] (fun j => j = nb + 1) W3 (fun _ w => BoxAt w (nb + 1) Ans.zero.l)) 0 (by kernel_rfl) (by kernel_rfl) (Reg.GAllKept.at _ (kenq5R_kept fb nb k sg fi)) (Reg.PInv.start 10 HZ.out.2.2.2.1.drew) ⟨?_, ?_, ?_, ?_, ?_, ?_, ?_, ?_, ?_, ?_, trivial⟩ ?_
    · refine Reg.GStepAt.plain (i := 0) rfl ?_
      intro x L ev w hI hk hp hA
      have hcc := hA.const
      clear hA hp
      refine Reg.out_value (v := .agg #[.bool false, .float .f64 0, .int .i64 0, .int .i64 0]) ?_ ⟨x, rfl, Reg.PPres.refl _ _ _, Reg.PInv.light HF hI 0 (by decide) (Below.refl _ _)⟩
      go_simp
    · refine Reg.GStepAt.plain (i := 1) rfl ?_
      intro x L ev w hI hk hp hA
      have e3 : ev (.tmp 3) = .pointer (some ⟨nb, 0, none⟩) := hA.oldNone 3 (by kernel_rfl)
      have hcc := hA.const
      clear hA hp
      obtain ⟨f8, m0⟩ := FC.out w hI.2.1
      refine Reg.out_value (v := .agg #[.int .i64 k]) ?_ ⟨x, rfl, Reg.PPres.refl _ _ _, Reg.PInv.light HF hI 1 (by decide) (Below.refl _ _)⟩
      go_simp
    · refine Reg.GStepAt.plain (i := 2) rfl ?_
      intro x L ev w hI hk hp hA
      have e2 : ev (.tmp 2) = .pointer (some ⟨fb, 0, none⟩) := hA.oldNone 2 (by kernel_rfl)
      have hcc := hA.const
      clear hA hp
      refine Reg.out_value (v := .pointer (some ⟨fb, 0, none⟩)) ?_ ⟨x, rfl, Reg.PPres.refl _ _ _, Reg.PInv.light HF hI 2 (by decide) (Below.refl _ _)⟩
      go_simp
    · refine Reg.GStepAt.plain (i := 3) rfl ?_
      intro x L ev w hI hk hp hA
      have e23 : ev (.tmp 23) = .pointer (some ⟨fb, 0, none⟩) := hA.val 2 _ 23 rfl (hp ⟨2, .data⟩ (by simp) rfl) rfl
      have hcc := hA.const
      clear hA hp
      refine Reg.out_value (v := .pointer (some ⟨fb, 0, none⟩)) ?_ ⟨x, rfl, Reg.PPres.refl _ _ _, Reg.PInv.light HF hI 3 (by decide) (Below.refl _ _)⟩
      go_simp
    · refine Reg.GStepAt.plain (i := 4) rfl ?_
      intro x L ev w hI hk hp hA
      have e24 : ev (.tmp 24) = .pointer (some ⟨fb, 0, none⟩) := hA.val 3 _ 24 rfl (hp ⟨3, .data⟩ (by simp) rfl) rfl
      have hcc := hA.const
      clear hA hp
      refine Reg.out_value (v := .pointer (some ⟨fb, 8, none⟩)) ?_ ⟨x, rfl, Reg.PPres.refl _ _ _, Reg.PInv.light HF hI 4 (by decide) (Below.refl _ _)⟩
      go_simp
    · refine Reg.GStepAt.plain (i := 5) rfl ?_
      intro x L ev w hI hk hp hA
      have e25 : ev (.tmp 25) = .pointer (some ⟨fb, 8, none⟩) := hA.val 4 _ 25 rfl (hp ⟨4, .data⟩ (by simp) rfl) rfl
      have hcc := hA.const
      clear hA hp
      obtain ⟨f8, m0⟩ := FC.out w hI.2.1
      refine Reg.out_value (v := .int .i64 sg) ?_ ⟨x, rfl, Reg.PPres.refl _ _ _, Reg.PInv.light HF hI 5 (by decide) (Below.refl _ _)⟩
      go_simp
    · refine Reg.GStepAt.plain (i := 6) rfl ?_
      intro x L ev w hI hk hp hA
      have e22 : ev (.tmp 22) = .agg #[.int .i64 k] := hA.val 1 _ 22 rfl (hp ⟨1, .data⟩ (by simp) rfl) rfl
      have e26 : ev (.tmp 26) = .int .i64 sg := hA.val 5 _ 26 rfl (hp ⟨5, .data⟩ (by simp) rfl) rfl
      have hcc := hA.const
      have hcf := hA.func
      clear hA hp
      refine Reg.out_call (f := 181) (args := #[.agg #[.int .i64 k], .int .i64 sg]) (w0 := w) ?_ ?_
      · go_simp
      refine (hFi.out w).mono ?_
      rintro e w' ⟨rfl, hb'⟩
      exact ⟨_, rfl, x, rfl, Reg.PPres.light hb', Reg.PInv.light HF hI 6 (by decide) hb'⟩
    · refine Reg.GStepAt.plain (i := 7) rfl ?_
      intro x L ev w hI hk hp hA
      have e27 : ev (.tmp 27) = .bool fi := hA.val 6 _ 27 rfl (hp ⟨6, .data⟩ (by simp) rfl) rfl
      have hcc := hA.const
      clear hA hp
      refine Reg.out_value (v := .bool (!fi)) ?_ ⟨x, rfl, Reg.PPres.refl _ _ _, Reg.PInv.light HF hI 7 (by decide) (Below.refl _ _)⟩
      go_simp
    · refine Reg.GStepAt.plain (i := 8) rfl ?_
      intro x L ev w hI hk hp hA
      have e6 : ev (.tmp 6) = .pointer (some ⟨nb + 1, 0, none⟩) := hA.oldNone 6 (by kernel_rfl)
      have e21 : ev (.tmp 21) = .agg #[.bool false, .float .f64 0, .int .i64 0, .int .i64 0] := hA.val 0 _ 21 rfl (hp ⟨0, .data⟩ (by simp) rfl) rfl
      have hcc := hA.const
      clear hA hp
      have hT := hI.2.2
      obtain ⟨c0, y0⟩ := hT.get 0 _ rfl
      obtain ⟨c1, y1⟩ := hT.get 1 _ rfl
      obtain ⟨c2, y2⟩ := hT.get 2 _ rfl
      obtain ⟨c3, y3⟩ := hT.get 3 _ rfl
      have hset := setBox_box Ans.zero.s hT
      have hbS := setBox_but (nb + 1) Ans.zero.s w
      refine Reg.out_skipP (w' := setBox w (nb + 1) Ans.zero.s) ?_ ⟨x + 1, trivial, Reg.PPres.heavy hbS, Reg.PInv.heavy hI 8 (by decide) (by simp) hk hbS hset⟩
      clear hI hset hT hbS
      simp only [setBox]
      (go_simp; try rfl)
    · refine Reg.GStepAt.plain (i := 9) rfl ?_
      intro x L ev w hI hk hp hA
      have e28 : ev (.tmp 28) = .bool (!fi) := hA.val 7 _ 28 rfl (hp ⟨7, .data⟩ (by simp) rfl) rfl
      have hcc := hA.const
      clear hA hp
      refine Reg.out_value (v := .bool (!fi)) ?_ ⟨x, rfl, Reg.PPres.refl _ _ _, Reg.PInv.light HF hI 9 (by decide) (Below.refl _ _)⟩
      go_simp
    intro gx L act wz hall hI hF
    have g21 : act.eval (.tmp 21) = .agg #[.bool false, .float .f64 0, .int .i64 0, .int .i64 0] := hF.val 0 _ 21 rfl (hall 0 (by simp)) rfl
    have g22 : act.eval (.tmp 22) = .agg #[.int .i64 k] := hF.val 1 _ 22 rfl (hall 1 (by simp)) rfl
    have g23 : act.eval (.tmp 23) = .pointer (some ⟨fb, 0, none⟩) := hF.val 2 _ 23 rfl (hall 2 (by simp)) rfl
    have g24 : act.eval (.tmp 24) = .pointer (some ⟨fb, 0, none⟩) := hF.val 3 _ 24 rfl (hall 3 (by simp)) rfl
    have g25 : act.eval (.tmp 25) = .pointer (some ⟨fb, 8, none⟩) := hF.val 4 _ 25 rfl (hall 4 (by simp)) rfl
    have g26 : act.eval (.tmp 26) = .int .i64 sg := hF.val 5 _ 26 rfl (hall 5 (by simp)) rfl
    have g27 : act.eval (.tmp 27) = .bool fi := hF.val 6 _ 27 rfl (hall 6 (by simp)) rfl
    have g28 : act.eval (.tmp 28) = .bool (!fi) := hF.val 7 _ 28 rfl (hall 7 (by simp)) rfl
    have g7 : act.eval (.tmp 7) = .bool (!fi) := hF.val 9 _ 7 rfl (hall 9 (by simp)) rfl
    have hact := hF.act [21, 22, 23, 24, 25, 26, 27, 28, 7] (by kernel_rfl)
    obtain ⟨hxz, hBz, hFz⟩ := Reg.PInv.done hI (fun j hj => hall j (by simp at hj ⊢; omega))
    clear hF hall
    simp only [List.foldl_cons, List.foldl_nil] at hact
    rw [g21, g22, g23, g24, g25, g26, g27, g28, g7] at hact
    clear g21 g22 g23 g24 g25 g26 g27 g28 g7
    simp only [List.setIfInBounds_toArray, List.set_cons_succ, List.set_cons_zero] at hact
    subst hact
    obtain ⟨hM3, hft, hQ3, hA3, hd3, hG3, hbw, hOl⟩ := HZ.out
    obtain ⟨hs1, hs2, hs3⟩ := HS1.out
    have hB4 : BoxAt wz (nb + 1) Ans.zero.l := hFz
    have HE := hidq (show StepEnd b fb O P (M, F9, Ans.zero, !fi) w (.returned (.tuple #[Ans.zero.v, .bool (!fi)])) wz from by
      have hsz := hBz.size
      have haO : ¬ O (nb + 1) := fun e => by have := hOl _ e; omega
      refine ⟨rfl, O, P2, hM3.but hBz (fun k hk e => haO (e ▸ hk)), by rw [← HF9.out.1]; exact hft.but hBz (fun k hk e => HP2.out k hk e), hd3, Grown.refl _ _ _, fun k hk => (hG3 k hk).imp id (fun e => ⟨e.1, by omega⟩), hbw.then hBz (fun j hj e => by omega)⟩)
    have HB4 := hidq hB4
    clear hM3 hft hQ3 hA3 hd3 hG3 hbw hOl hs1 hs2 hs3 hB4 hBz hFz HF hxz HZ FC hFi HS1 hfl3 hfl2 hfl hfp
    go_wp2
    exact ret_ans (A := Ans.zero) Tryz.results183 HB4.out rfl rfl rfl HE.out
  · have t0 : (F.pc == 0) = false := by simpa using hp0
    by_cases hp2 : F.pc = 2
    · rw [kEnq_2 hp2]
      have f5z : W1.cell? ⟨fb, 5, none⟩ = some (.int .i64 2) := by rw [f5, hp2]
      have hLk := hidq (klook_any k 0 W1 b fb O P M F hM1 hf1 hd hk hs)
      have q1 : True := trivial
      have FIN := hidq (fun e w2 (hE : RdEnd b fb O P M (kLook k 0 M F) W1 e w2) => stepEnd_rd (d := false) hb1 h.lt hf.lt hf.ob hE hA1 (by omega))
      generalize kLook k 0 M F = F9 at *
      clear h hf hd hf1 hM1 hB1 hS01 hS11 hi0 hi1 hQ1 hA1 hb1 hs1 f5 hp0 hp2 t0 hs hsg hck
      go_enter Tryz.func183, Tryz.ntmps183
      go_wp2_with fail
      refine hLk.out.mono ?_
      intro e w2 hE
      obtain ⟨e0, e1, e2⟩ := FIN.out _ _ hE
      obtain ⟨rfl, _⟩ := hE
      obtain ⟨c0, y0⟩ := e0.get 0 _ rfl
      obtain ⟨c1, y1⟩ := e0.get 1 _ rfl
      obtain ⟨c2, y2⟩ := e0.get 2 _ rfl
      obtain ⟨c3, y3⟩ := e0.get 3 _ rfl
      have hal := e0.lt
      have E1 := hidq (And.intro e1 e2)
      clear e0 e1 e2 FIN hLk f5z q0 hql hW1
      go_wp2
      exact ret_ans (A := Ans.zero) Tryz.results183 E1.out.1 rfl rfl rfl E1.out.2
    · have t2 : (F.pc == 2) = false := by simpa using hp2
      by_cases hp3 : F.pc = 3
      · rw [kEnq_3 hp3]
        have f5z : W1.cell? ⟨fb, 5, none⟩ = some (.int .i64 3) := by rw [f5, hp3]
        have f1 := (hB1.get 1 _ rfl).1
        have f2 := (hB1.get 2 _ rfl).1
        have hCn := hidq (fun W => icanon_any F.pri F.val W)
        obtain ⟨cp, hcp⟩ : ∃ cp, cbits F.pri = cp := ⟨_, rfl⟩
        rw [hcp] at hCn ⊢
        have HO := hidq (And.intro h (And.intro hf (And.intro hd (And.intro hb1 (And.intro hQ1 (And.intro hA1 (And.intro hs1 hnb)))))))
        have HK := hidq (And.intro hk (And.intro hs hck))
        obtain ⟨r, hr⟩ : ∃ r, kWrite k 1 [(cp, F.val)] cp F.val M F = r := ⟨_, rfl⟩
        rw [hr]
        have HR := hidq hr
        obtain ⟨pv, hpv⟩ : ∃ pv, F.val = pv := ⟨_, rfl⟩
        obtain ⟨pri, hpri⟩ : ∃ pri, F.pri = pri := ⟨_, rfl⟩
        rw [hpv] at HR f2 hCn
        rw [hpri] at f1 hCn
        clear h hf hd hf1 hM1 hB1 hS01 hS11 hi0 hi1 hQ1 hA1 hb1 hs1 f5 hp0 hp2 hp3 hs hsg hck hcp hr hk hpv hpri
        go_enter Tryz.func183, Tryz.ntmps183
        go_wp2_with fail
        refine (hCn.out _).mono ?_
        rintro e w2 ⟨rfl, hb2⟩
        obtain ⟨h, hf, hd, hb1, hQ1, hA1, hs1, hnb2⟩ := HO.out
        obtain ⟨W3, hW3', hb3, hs3, hX3⟩ := one_new w2 [.float .f64 cp, .int .i64 pv] 40
        have hW3 : w2.alloc (.cells #[.float .f64 cp, .int .i64 pv] 40) = W3 := hW3'
        obtain ⟨W4, hW4', hb4, hs4, hX4⟩ := one_new W3 [.float .f64 cp, .int .i64 pv] 40
        have hW4 : W3.alloc (.cells #[.float .f64 cp, .int .i64 pv] 40) = W4 := hW4'
        have hFl : Flat 2 W4 W3.heap.size 1 1 [.float .f64 cp, .int .i64 pv] := by
          rw [← hW4']; exact Flat.new W3 [.float .f64 cp, .int .i64 pv] 40 2 1 rfl (by decide) (by intro u hu; simp at hu; rcases hu with rfl | rfl <;> rfl)
        have hb12 : Below W1.heap.size W1 W3 := hb2.trans (hb3.mono hb2.size)
        have hb14 : Below W1.heap.size W1 W4 := hb12.trans (hb4.mono hb12.size)
        have hb04 : Below w.heap.size w W4 := hb1.trans (hb14.mono hb1.size)
        have hX34 := hX3.below hb4
        have x0 := (hX3.get 0 _ rfl).1
        have x1 := (hX3.get 1 _ rfl).1
        have hxl := hX3.lt
        have hsz2 := hb2.size
        have hfp2 := hf.lt _ hf.ob
        obtain ⟨hk, hs, hck⟩ := HK.out
        have q3 := ((hQ1.below hb12).get 0 _ rfl).1
        have hq3l := (hQ1.below hb12).lt
        have y0 := (hX34.get 0 _ rfl).1
        have y1 := (hX34.get 1 _ rfl).1
        have hyl := hX34.lt
        have hWr := kwrite_any k 1 W4 b fb O P M F (some ⟨W3.heap.size, 0, none⟩) 1 1 [(cp, pv)] cp pv (h.below hb04) (hf.below hb04) hd hk hs rfl (.inr ⟨_, rfl, hFl⟩) (fun j hj => by
          obtain ⟨y, hy, rfl⟩ := hj
          cases hy
          exact ⟨fun e => by have h1 := h.lt _ e; have h2 : w.heap.size ≤ W3.heap.size := Nat.le_trans hb1.size hb12.size; simp only at h1; omega, fun e => by have h2 : w.heap.size ≤ W3.heap.size := Nat.le_trans hb1.size hb12.size; simp only at e; omega⟩) (by decide) hck
        rw [HR.out] at hWr
        have HWr := hidq hWr
        have FIN := hidq (fun e w5 (hE : StepEnd b fb O P r W4 e w5) => And.intro (stepEnd_on hb04 h.lt hf.lt hE (hA1.below hb14) (by omega)) (show BoxAt w5 (nb + 1) Ans.zero.l from by
          obtain ⟨_, O', P', _, _, _, _, _, h6⟩ := hE
          refine (hA1.below hb14).but h6 (fun e => ?_)
          rcases e with e | e
          · have := h.lt _ e; omega
          · have := hf.lt _ e; omega))
        obtain ⟨sb3, hsb3⟩ : ∃ sb3, W3.heap.size = sb3 := ⟨_, rfl⟩
        obtain ⟨xb, hxb⟩ : ∃ xb, w2.heap.size = xb := ⟨_, rfl⟩
        rw [hsb3] at HWr
        rw [hxb] at x0 x1 hxl y0 y1 hyl
        clear h hf hd hb1 hQ1 hA1 hs1 hnb2 hb2 hb3 hX3 hX34 hb4 hX4 hFl hb12 hb14 hb04 hWr hsz2 hfp2 hk hs hck HO HK HR hCn hW3' hW4' hs3 hs4 q0 hql f1 f2 f5z
        go_wp2_with fail
        refine HWr.out.mono ?_
        intro e w5 hE
        obtain ⟨⟨e1, e2⟩, e0⟩ := FIN.out _ _ hE
        obtain ⟨rfl, _⟩ := hE
        obtain ⟨M', F', A, dn⟩ := r
        obtain ⟨aok, api, av, an⟩ := A
        dsimp only at e1 e2 e0 ⊢
        obtain ⟨g0, u0⟩ := e0.get 0 _ rfl
        obtain ⟨g1, u1⟩ := e0.get 1 _ rfl
        obtain ⟨g2, u2⟩ := e0.get 2 _ rfl
        obtain ⟨g3, u3⟩ := e0.get 3 _ rfl
        have hal := e0.lt
        have E1 := hidq (And.intro e1 e2)
        clear e0 e1 e2 FIN HWr hW1 hW3 hW4 x0 x1 y0 y1 q3
        go_wp2
        exact ret_ans Tryz.results183 E1.out.1 rfl rfl rfl E1.out.2
      · have t3 : (F.pc == 3) = false := by simpa using hp3
        rw [kEnq_4 hp0 hp2 hp3]
        have hMv := hidq (kmove_any W1 b fb O P M F hM1 hf1 hd hsg hck)
        have FIN := hidq (fun e w5 (hE : StepEnd b fb O P (kMove M F) W1 e w5) => And.intro (stepEnd_on hb1 h.lt hf.lt hE hA1 (by omega)) (show BoxAt w5 (nb + 1) Ans.zero.l from by
          obtain ⟨_, O', P', _, _, _, _, _, h6⟩ := hE
          refine hA1.but h6 (fun e => ?_)
          rcases e with e | e
          · have := h.lt _ e; omega
          · have := hf.lt _ e; omega))
        obtain ⟨pc, hpc⟩ : ∃ pc, F.pc = pc := ⟨_, rfl⟩
        rw [hpc] at t0 t2 t3 f5
        generalize kMove M F = r at *
        clear h hf hd hf1 hM1 hB1 hS01 hS11 hi0 hi1 hQ1 hA1 hb1 hs1 hp0 hp2 hp3 hs hsg hck hpc hk
        go_enter Tryz.func183, Tryz.ntmps183
        go_wp2_with fail
        refine hMv.out.mono ?_
        intro e w5 hE
        obtain ⟨⟨e1, e2⟩, e0⟩ := FIN.out _ _ hE
        obtain ⟨rfl, _⟩ := hE
        obtain ⟨M', F', A, dn⟩ := r
        obtain ⟨aok, api, av, an⟩ := A
        dsimp only at e1 e2 e0 ⊢
        obtain ⟨g0, u0⟩ := e0.get 0 _ rfl
        obtain ⟨g1, u1⟩ := e0.get 1 _ rfl
        obtain ⟨g2, u2⟩ := e0.get 2 _ rfl
        obtain ⟨g3, u3⟩ := e0.get 3 _ rfl
        have hal := e0.lt
        have E1 := hidq (And.intro e1 e2)
        clear e0 e1 e2 FIN hMv hW1 f5 q0
        go_wp2
        exact ret_ans Tryz.results183 E1.out.1 rfl rfl rfl E1.out.2
end Go.Proofs.YtbcmilfajeanbaaGreat

namespace Go.Proofs.YtbcmilfajeanbaaGreat
open Go.RowKit Go.Sort

theorem first1_any (a : Option Addr) (cap : Nat) (x : KI) (w : World) (h : SlAt 2 w a cap 1 (flatI (kit [x]))) :
    Calls Tryz.prog 171 #[.slice a 1 cap] w fun e w' => ∃ b, e = .returned (.pointer (some ⟨b, 0, none⟩)) ∧ Below w.heap.size w w' ∧
      Calls Tryz.prog 174 #[.pointer (some ⟨b, 0, none⟩)] w' fun e2 w2 => e2 = .returned (.tuple #[.agg #[.float .f64 x.b, .int .i64 x.v], .bool true]) ∧ Below w'.heap.size w' w2 := by
  refine (new_any a 1 cap _ _ w (items_of (K := [x]) rfl h) (by omega)).mono ?_
  rintro e w1 ⟨b, g, d, rfl, hbb, hg, hH, hd, hb1⟩
  rw [can_kit [x] 1 rfl] at hd
  refine ⟨b, rfl, hb1, ?_⟩
  have hdl : d.toList = [x] := List.perm_singleton.1 hd
  have hs : 0 < d.size := by have := congrArg List.length hdl; simp at this; omega
  have := first_some b g d w1 hH hs
  have hx : d[0]! = x := by
    have : d = #[x] := by apply Array.toList_inj.1; rw [hdl]
    rw [this]; rfl
  rw [hx] at this
  exact this
end Go.Proofs.YtbcmilfajeanbaaGreat
