/-
  Layer 7: what a Tally's operations come to, alone.
-/
import Derived.Test.YthhechgjablklaaAloneT7
namespace Go.Proofs.Ythhechgjablklaa
open Go.RowKit Go.Sort

theorem write_clock (M : Mem) (i v x : Int) (L : List It) : (M.write i v x L).clock ≤ M.clock + 1 := by
  rcases write_as (M := M) (i := i) (v := v) (x := x) (L := L) with ⟨_, h, _⟩ | ⟨_, h⟩
  · rw [h]; exact Nat.le_refl _
  · rw [h]; exact Nat.le_succ _
theorem sumR_mem (sh : Int) (M : Mem) (F : Fr) : (sumR sh M F).1 = M := by unfold sumR; split <;> rfl

theorem tFine (sh : Int) : Fine (tGood sh) (tStep sh) := by
  constructor
  · intro M F hg hd
    rcases hg with hk | ⟨hk, hat⟩
    · left
      unfold tStep
      rw [if_pos hk]
      split <;> exact hk
    · right
      unfold tStep at hd ⊢
      rw [if_neg (by omega)] at hd ⊢
      by_cases hlt : F.at_ + 1 < sh
      · rw [sumR_lt hlt]
        exact ⟨hk, by show 0 ≤ F.at_ + 1; omega, hlt⟩
      · rw [sumR_ge hlt] at hd; cases hd
  · intro M F
    unfold tStep
    split
    · split
      · exact Nat.le_succ _
      · exact write_clock _ _ _ _ _
    · rw [sumR_mem]; exact Nat.le_succ _

/-- An Add alone. -/
theorem alone_add (sh : Int) (hs : 1 ≤ sh ∧ sh ≤ 16) (M : Mem) (p n : Nat) (v d d1 : Int) (k : Nat) (hk : into d sh = (k : Int)) :
    alone (tStep sh) (n + 2) M (Fr.of 5 p v d d1) = (M.put k (wrap64 ((M.cell k).n + v)) [], ⟨true, 0, 0, 0⟩, true) := by
  have hr := into_rng (d := d) hs.1
  have h1 : tStep sh M (Fr.of 5 p v d d1) = (M, { Fr.of 5 p v d d1 with c0 := M.look (into d sh), pc := 1 }, Ans.zero, false) := rfl
  rw [alone_on h1]
  have hc : M.can (k : Int) (M.cell k).ver = true := can_yes (by omega) rfl
  have h2 : tStep sh M { Fr.of 5 p v d d1 with c0 := M.look (into d sh), pc := 1 } = (M.put k (wrap64 ((M.cell k).n + v)) [], { Fr.of 5 p v d d1 with c0 := M.look (into d sh) }, ⟨true, 0, 0, 0⟩, true) := by
    show (M.write (into d sh) (M.look (into d sh)).ver (wrap64 ((M.look (into d sh)).n + v)) [], _, (⟨M.can (into d sh) (M.look (into d sh)).ver, 0, 0, 0⟩ : Ans), M.can (into d sh) (M.look (into d sh)).ver) = _
    rw [hk, look_nat, hc]
    unfold Mem.write
    rw [if_pos hc]
    rfl
  exact alone_done h2

/-- What the first k shards have, as it is summed up. -/
def totTo (M : Mem) : Nat → Int
  | 0 => 0
  | k + 1 => wrap64 (totTo M k + (M.cell k).n)
/-- A Sum alone. -/
theorem alone_sum_from (sh : Nat) (hs : 1 ≤ sh) (M : Mem) (p : Nat) (v d d1 : Int) : ∀ (j k : Nat), k + j + 1 = sh → ∀ n, alone (tStep (sh : Int)) (n + j + 1) M { Fr.of 6 p v d d1 with at_ := (k : Int), total := totTo M k } = (M, ⟨true, 0, 0, totTo M sh⟩, true)
  | 0, k, hk, n => by
    have h : tStep (sh : Int) M { Fr.of 6 p v d d1 with at_ := (k : Int), total := totTo M k } = (M, { Fr.of 6 p v d d1 with at_ := (k : Int) + 1, total := wrap64 (totTo M k + (M.look (k : Int)).n) }, ⟨true, 0, 0, wrap64 (totTo M k + (M.look (k : Int)).n)⟩, true) := by
      unfold tStep
      rw [if_neg (by show ¬ (6 : Int) = 5; decide), sumR_ge (by show ¬ (k : Int) + 1 < sh; omega)]
    rw [show n + 0 + 1 = n + 1 from rfl, alone_done h, look_nat, ← hk]
    rfl
  | j + 1, k, hk, n => by
    have h : tStep (sh : Int) M { Fr.of 6 p v d d1 with at_ := (k : Int), total := totTo M k } = (M, { Fr.of 6 p v d d1 with at_ := ((k + 1 : Nat) : Int), total := totTo M (k + 1) }, Ans.zero, false) := by
      unfold tStep
      rw [if_neg (by show ¬ (6 : Int) = 5; decide), sumR_lt (by show (k : Int) + 1 < sh; omega), show (({ Fr.of 6 p v d d1 with at_ := (k : Int), total := totTo M k } : Fr).at_) = (k : Int) from rfl, look_nat]
      rfl
    rw [show n + (j + 1) + 1 = (n + j + 1) + 1 by omega, alone_on h]
    exact alone_sum_from sh hs M p v d d1 j (k + 1) (by omega) n
theorem alone_sum (sh n : Nat) (hs : 1 ≤ sh) (hn : sh ≤ n) (M : Mem) (p : Nat) (v d d1 : Int) : alone (tStep (sh : Int)) n M (Fr.of 6 p v d d1) = (M, ⟨true, 0, 0, totTo M sh⟩, true) := by
  have := alone_sum_from sh hs M p v d d1 (sh - 1) 0 (by omega) (n - sh)
  rw [show n - sh + (sh - 1) + 1 = n by omega] at this
  exact this

theorem wrap_add (a b : Int) : wrap64 (wrap64 a + b) = wrap64 (a + b) := by unfold wrap64; omega
/-- The exact sum. -/
def sumTo (M : Mem) : Nat → Int
  | 0 => 0
  | k + 1 => sumTo M k + (M.cell k).n
theorem totTo_eq (M : Mem) : ∀ k, totTo M k = wrap64 (sumTo M k)
  | 0 => by show (0 : Int) = wrap64 0; unfold wrap64; decide
  | k + 1 => by
    show wrap64 (totTo M k + (M.cell k).n) = wrap64 (sumTo M k + (M.cell k).n)
    rw [totTo_eq M k, wrap_add]
theorem sumTo_put (M : Mem) (i : Nat) (x : Int) (L : List It) : ∀ k, sumTo (M.put i x L) k = sumTo M k + (if i < k then x - (M.cell i).n else 0)
  | 0 => by simp [sumTo]
  | k + 1 => by
    show sumTo (M.put i x L) k + ((M.put i x L).cell k).n = sumTo M k + (M.cell k).n + _
    rw [sumTo_put M i x L k]
    show _ + (if k = i then (⟨((M.clock + 1 : Nat) : Int), x, L⟩ : CV) else M.cell k).n = _
    by_cases e : k = i
    · subst e
      rw [if_pos rfl, if_neg (by omega), if_pos (by omega)]
      show sumTo M k + 0 + x = _
      omega
    · rw [if_neg e]
      by_cases h : i < k
      · rw [if_pos h, if_pos (by omega)]; omega
      · rw [if_neg h, if_neg (by omega)]; omega

theorem tnew_any (sh : Int) (w : World) : Calls Try.prog 48 #[.int .i64 sh] w fun e w' => e = .returned (.tuple #[.agg #[.int .i64 (if legal 3 sh = 0 then sh else 0)], .int .i64 (legal 3 sh)]) ∧ Below w.heap.size w w' := by
  have hL := fun w => legal_any 3 sh w
  obtain ⟨r, hr⟩ : ∃ r, legal 3 sh = r := ⟨_, rfl⟩
  rw [hr] at hL ⊢
  have hb0 : BoxAt (w.alloc (.cells #[.int .i64 0] 103)) w.heap.size [.int .i64 0] := BoxAt.new w [.int .i64 0] 103
  by_cases h0 : r = 0
  · rw [if_pos h0]
    subst h0
    clear hr
    go_enter Try.func48, Try.ntmps48
    go_wp2_with fail
    refine (hL _).mono ?_
    rintro e w2 ⟨rfl, hb⟩
    have hb2 := hb0.below hb
    obtain ⟨g0, x0⟩ := hb2.get 0 _ rfl
    have hsz := hb.size
    have HB := hidq (show Below w.heap.size w w2 from ((Below.refl _ _).alloc (Nat.le_refl _) _).trans (hb.mono (by simp)))
    clear hb hb0 hb2 hL
    go_wp2
    refine bodyPost_ret (v := .tuple #[.agg #[.int .i64 sh], .int .i64 0]) ?_ rfl ⟨rfl, HB.out.setCell (Nat.le_refl _) _⟩
    simp [results, Try.results48, go_sem, World.cell?_setCell_same', g0]
  · rw [if_neg h0]
    have hr0 : (r == 0) = false := by simpa using h0
    clear hr h0
    go_enter Try.func48, Try.ntmps48
    go_wp2_with fail
    refine (hL _).mono ?_
    rintro e w2 ⟨rfl, hb⟩
    have hb2 := hb0.below hb
    obtain ⟨g0, x0⟩ := hb2.get 0 _ rfl
    have hsz := hb.size
    have HB := hidq (show Below w.heap.size w w2 from ((Below.refl _ _).alloc (Nat.le_refl _) _).trans (hb.mono (by simp)))
    clear hb hb0 hb2 hL
    go_wp2
    refine bodyPost_ret (v := .tuple #[.agg #[.int .i64 0], .int .i64 r]) ?_ rfl ⟨rfl, HB.out.setCell (Nat.le_refl _) _⟩
    simp [results, Try.results48, go_sem, World.cell?_setCell_same', g0]
end Go.Proofs.Ythhechgjablklaa
