/-
  Layer 7: a Tally's step, as a machine's: contract.
-/
import Derived.Test.YthhechgjablklaaTallySum7
namespace Go.Proofs.Ythhechgjablklaa
open Go.RowKit Go.Sort

/-- A Tally's step. -/
def tStep (sh : Int) : StepFn := fun M F =>
  if F.kind = 5 then
    if F.pc = 0 then (M, { F with c0 := M.look (into F.d0 sh), pc := 1 }, Ans.zero, false)
    else (M.write (into F.d0 sh) F.c0.ver (wrap64 (F.c0.n + F.val)) [], { F with pc := 0 }, ⟨M.can (into F.d0 sh) F.c0.ver, 0, 0, 0⟩, M.can (into F.d0 sh) F.c0.ver)
  else sumR sh M F
/-- What is asked of a frame. -/
def tGood (sh : Int) (_ : Mem) (F : Fr) : Prop := F.kind = 5 ∨ (F.kind = 6 ∧ 0 ≤ F.at_ ∧ F.at_ < sh)

theorem tadd_any (sh : Int) (w : World) (b fb : Nat) (O P : Nat → Prop) (M : Mem) (F : Fr) (h : MemAt w b O M) (hf : FrAt w fb P F) (hd : ∀ k, O k → ¬ P k) (hs : 1 ≤ sh ∧ sh ≤ 16) (hk : F.kind = 5) (hck : M.clock < 4611686018427387904) :
    Calls Try.prog 140 #[.agg #[.int .i64 sh], .pointer (some ⟨b, 0, none⟩), .pointer (some ⟨fb, 0, none⟩)] w (StepEnd b fb O P (tStep sh M F) w) := by
  unfold tStep
  rw [if_pos hk]
  by_cases hp : F.pc = 0
  · rw [if_pos hp]; exact tadd_read sh w b fb O P M F h hf hd hs hp
  · rw [if_neg hp]; exact tadd_write sh w b fb O P M F h hf hd hs hp hck

set_option maxHeartbeats 2000000 in
theorem tstep_is (sh : Int) (hs : 1 ≤ sh ∧ sh ≤ 16) : IsStep 139 (.agg #[.int .i64 sh]) (tGood sh) (tStep sh) := by
  intro w b fb O P M F h hf hd hg hck
  obtain ⟨a0, k0, a1, k1, hB, _⟩ := hf.box
  have hfl := hB.lt
  have hsf := run_store_flt (P := Try.prog)
  have c0 := (hB.get 0 _ rfl).1
  obtain ⟨W1, hW1, hb0, hsz0, hR0, hA0⟩ := two_new w [.int .i64 sh] Ans.zero.l 103 98 0
  have hW2 : (w.alloc (.cells #[.int .i64 sh] 103)).alloc (.cells #[.bool false, .float .f64 0, .int .i64 0, .int .i64 0] 98) = W1 := hW1
  clear hW1
  have r0 := (hR0.get 0 _ rfl).1
  have c01 := (hb0.cell (p := ⟨fb, 0, none⟩) hfl).trans c0
  have hM1 := h.below hb0
  have hf1 := hf.below hb0
  have FIN := hidq (fun e w2 (hE : StepEnd b fb O P (tStep sh M F) W1 e w2) => stepEnd_on hb0 h.lt hf.lt hE hA0 (Nat.le_succ _))
  have GA := hidq (fun w2 (hb : But (fun k => O k ∨ P k) W1 w2) => hA0.but hb (fun e => by
    rcases e with e | e
    · have := h.lt _ e; omega
    · have := hf.lt _ e; omega))
  rcases hg with hk | ⟨hk, hat⟩
  · have hC := hidq (tadd_any sh W1 b fb O P M F hM1 hf1 hd hs hk hck)
    rw [hk] at c0 c01
    clear h hf hd hB hb0 hR0 hA0 hM1 hf1 hk
    generalize tStep sh M F = r at *
    obtain ⟨M', F', A, d⟩ := r
    obtain ⟨aok, api, av, an⟩ := A
    go_enter Try.func139, Try.ntmps139
    go_wp2_with fail
    refine hC.out.mono ?_
    intro e w2 hE
    obtain ⟨e1, e2⟩ := FIN.out _ _ hE
    obtain ⟨rfl, _, _, _, _, _, _, _, hb2⟩ := hE
    have hA2 := GA.out _ hb2
    obtain ⟨g0, x0⟩ := hA2.get 0 _ rfl
    obtain ⟨g1, x1⟩ := hA2.get 1 _ rfl
    obtain ⟨g2, x2⟩ := hA2.get 2 _ rfl
    obtain ⟨g3, x3⟩ := hA2.get 3 _ rfl
    have E1 := hidq e1
    have E2 := hidq e2
    clear e1 e2 hA2 hb2 hC FIN GA hW2
    go_wp2
    exact ret_ans Try.results139 E1.out rfl rfl rfl E2.out
  · have hC := hidq (tsum_any sh W1 b fb O P M F hM1 hf1 hd hs hat)
    have hT : sumR sh M F = tStep sh M F := by unfold tStep; rw [if_neg (by omega)]
    rw [hT] at hC
    rw [hk] at c0 c01
    clear h hf hd hB hb0 hR0 hA0 hM1 hf1 hk hat hT
    generalize tStep sh M F = r at *
    obtain ⟨M', F', A, d⟩ := r
    obtain ⟨aok, api, av, an⟩ := A
    go_enter Try.func139, Try.ntmps139
    go_wp2_with fail
    refine hC.out.mono ?_
    intro e w2 hE
    obtain ⟨e1, e2⟩ := FIN.out _ _ hE
    obtain ⟨rfl, _, _, _, _, _, _, _, hb2⟩ := hE
    have hA2 := GA.out _ hb2
    obtain ⟨g0, x0⟩ := hA2.get 0 _ rfl
    obtain ⟨g1, x1⟩ := hA2.get 1 _ rfl
    obtain ⟨g2, x2⟩ := hA2.get 2 _ rfl
    obtain ⟨g3, x3⟩ := hA2.get 3 _ rfl
    have E1 := hidq e1
    have E2 := hidq e2
    clear e1 e2 hA2 hb2 hC FIN GA hW2
    go_wp2
    exact ret_ans Try.results139 E1.out rfl rfl rfl E2.out
end Go.Proofs.Ythhechgjablklaa
