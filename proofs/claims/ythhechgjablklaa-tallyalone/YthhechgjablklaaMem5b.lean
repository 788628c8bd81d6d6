/-
  Layer 5: a memory is written: contracts.
-/
import Derived.Test.YthhechgjablklaaMem5
namespace Go.Proofs.Ythhechgjablklaa
open Go.RowKit Go.Sort

theorem own'_mono {O : Nat → Prop} {w w1 w2 : World} (h1 : w.heap.size ≤ w1.heap.size) (h2 : w1.heap.size ≤ w2.heap.size) {k : Nat} (h : own' (own' O w w1) w1 w2 k) : own' O w w2 k := by
  rcases h with (h | h) | h
  · exact .inl h
  · exact .inr ⟨h.1, by omega⟩
  · exact .inr ⟨by omega, h.2⟩
theorem MemAt.own {w : World} {b : Nat} {O O' : Nat → Prop} {M : Mem} (h : MemAt w b O M) (hi : ∀ k, O k → O' k) (hl : ∀ k, O' k → k < w.heap.size) : MemAt w b O' M := by
  obtain ⟨a, cap, A, C, hr⟩ := h.row
  exact ⟨hi _ h.ob, hl, ⟨a, cap, A, C, hr.hd, hr.sl, fun j hj => ⟨hi _ (hr.own j hj).1, (hr.own j hj).2⟩, hr.its, fun i hi' j hj => ⟨hi _ (hr.ito i hi' j hj).1, (hr.ito i hi' j hj).2⟩⟩, h.clk, h.fz0, h.fz1, h.max, h.rest, h.few⟩

theorem reach_max (M : Mem) (n : Nat) (h : n ≤ M.len) : M.reach n = M := by
  unfold Mem.reach; rw [Nat.max_eq_left h]
theorem reach_twice (M : Mem) (m n : Nat) (h : m ≤ n) : (M.reach m).reach n = M.reach n := by
  unfold Mem.reach; simp only [Mem.mk.injEq, and_true]; omega

/-- A row that was moved or grown in place, with one cell more. -/
theorem mem_grown {w w1 : World} {b g cap' : Nat} {O : Nat → Prop} {M : Mem} {a : Option Addr} {cap : Nat} {A : Nat → Option Addr} {C : Nat → Nat}
    (h : MemAt w b O M) (hr : RowC w b O M a cap A C) (hl : M.len < 1000)
    (hF : Flat 3 w1 g cap' (M.len + 1) (flatC M A C ++ [.int .u64 0, .int .i64 0, .slice none 0 0])) (hb : But (inB a) w w1) (hg : inB a g ∨ w.heap.size ≤ g) :
    MemAt (w1.setCell ⟨b, 0, none⟩ (.slice (some ⟨g, 0, none⟩) (M.len + 1) cap')) b (own' O w w1) (M.reach (M.len + 1)) ∧ But O w (w1.setCell ⟨b, 0, none⟩ (.slice (some ⟨g, 0, none⟩) (M.len + 1) cap')) := by
  have hbl := h.lt b h.ob
  have hnb : ¬ inB a b := fun e => (hr.own b e).2 rfl
  have hm : (M.reach (M.len + 1)).len = M.len + 1 := by show max M.len (M.len + 1) = _; omega
  have c0 : w1.cell? ⟨b, 0, none⟩ = some (.slice a M.len cap) := by rw [hb.cell (p := ⟨b, 0, none⟩) hbl hnb]; exact hr.hd
  have hgo : own' O w w1 g ∧ g ≠ b := by
    rcases hg with hg | hg
    · exact ⟨.inl (hr.own g hg).1, (hr.own g hg).2⟩
    · exact ⟨.inr ⟨hg, hF.lt⟩, by omega⟩
  have hset : But (fun k => k = b) w1 (w1.setCell ⟨b, 0, none⟩ (.slice (some ⟨g, 0, none⟩) (M.len + 1) cap')) := (But.refl (fun k => k = b) w1).set1 b 0 rfl _
  refine ⟨⟨.inl h.ob, ?_, ⟨some ⟨g, 0, none⟩, cap', fun i => if i = M.len then none else A i, fun i => if i = M.len then 0 else C i, ?_⟩, ?_, ?_, ?_, by rw [hm]; omega, ?_, h.few⟩, ?_⟩
  · intro k hk
    rw [World.size_setCell]
    rcases hk with hk | hk
    · exact Nat.lt_of_lt_of_le (h.lt k hk) hb.size
    · exact hk.2
  · refine ⟨by rw [World.cell?_setCell_same' _ _ _ (by rw [c0]; rfl), hm], .inr ⟨g, rfl, ?_⟩, ?_, ?_, ?_⟩
    · rw [hm, flatC_snoc M A C (h.rest _ (Nat.le_refl _))]
      exact hF.but hset hgo.2
    · rintro j ⟨x, hx, rfl⟩; cases hx; exact hgo
    · intro i hi
      rw [hm] at hi
      by_cases e : i = M.len
      · subst e
        show SlAt 2 _ (if M.len = M.len then none else A M.len) (if M.len = M.len then 0 else C M.len) (M.cell M.len).L.length (flatI (M.cell M.len).L)
        rw [if_pos rfl, if_pos rfl, h.rest _ (Nat.le_refl _)]
        exact SlAt.nil _ _
      · show SlAt 2 _ (if i = M.len then none else A i) (if i = M.len then 0 else C i) (M.cell i).L.length (flatI (M.cell i).L)
        rw [if_neg e, if_neg e]
        have hi' : i < M.len := by omega
        exact ((hr.its i hi').but hb (fun j hj => (hr.ito i hi' j hj).2.2)).but hset (fun j hj => (hr.ito i hi' j hj).2.1)
    · intro i hi j hj
      rw [hm] at hi
      by_cases e : i = M.len
      · rw [if_pos e] at hj; obtain ⟨x, hx, _⟩ := hj; cases hx
      · rw [if_neg e] at hj
        have hi' : i < M.len := by omega
        have h1 := hr.ito i hi' j hj
        refine ⟨.inl h1.1, h1.2.1, ?_⟩
        rintro ⟨x, hx, hxj⟩
        cases hx
        have hxj' : g = j := hxj
        rcases hg with hg | hg
        · rw [hxj'] at hg; exact h1.2.2 hg
        · have := h.lt j h1.1; omega
  · rw [World.cell?_setCell_other _ _ _ _ (fun e => by injection e with _ e2; cases e2), hb.cell (p := ⟨b, 1, none⟩) hbl hnb]
    exact h.clk
  · rw [World.frozen?_setCell, hb.frozen (p := ⟨b, 0, none⟩) hbl hnb]; exact h.fz0
  · rw [World.frozen?_setCell, hb.frozen (p := ⟨b, 1, none⟩) hbl hnb]; exact h.fz1
  · intro i hi
    rw [hm] at hi
    exact h.rest i (by omega)
  · exact (hb.mono (fun k _ e => (hr.own k e).1)).trans (hset.mono (fun k _ e => by rw [e]; exact h.ob))

theorem add1 (n : Nat) : ((n + 1 : Nat) : Int) = (n : Int) + 1 := by omega
set_option maxHeartbeats 1000000 in
theorem reach_any (b i : Nat) (O : Nat → Prop) (M : Mem) (w : World) (h : MemAt w b O M) (hi : i < 1000) :
    Calls Try.prog 95 #[.pointer (some ⟨b, 0, none⟩), .int .i64 (i : Int)] w fun e w' => e = .returned (.tuple #[]) ∧ MemAt w' b (own' O w w') (M.reach (i + 1)) ∧ But O w w' := by
  have hi1 : (i : Int) < 1000 := by omega
  go_enter Try.func95, Try.ntmps95
  go_wp2_with fail
  go_loopw [] (fun wr => ∃ n, n ≤ max M.len (i + 1) ∧ MemAt wr b (own' O w wr) (M.reach n) ∧ But O w wr) (fun wr => i + 1 - lenIn wr b)
  case atStart => exact ⟨M.len, by omega, by rw [reach_max M _ (Nat.le_refl _)]; exact h.own (fun k hk => .inl hk) (fun k hk => hk.elim (h.lt k) (fun e => e.2)), But.refl _ _⟩
  case round =>
    obtain ⟨n, hn, hM, hB⟩ := hrel
    obtain ⟨a, cap, A, C, hr⟩ := hM.row
    obtain ⟨m, hm⟩ : ∃ m, (M.reach n).len = m := ⟨_, rfl⟩
    have hmm : m = max M.len n := hm.symm
    have hd := hr.hd
    rw [hm] at hd
    have hfz := hM.fz0
    have hbl := hM.lt b hM.ob
    have hmx := hM.max
    rw [hm] at hmx
    have hmx1 : (m : Int) ≤ 1000 := by omega
    by_cases hlt : m ≤ i
    · have hl1 : (m : Int) ≤ (i : Int) := by omega
      have hsr : Src Try.prog 3 147 (.slice (some ⟨wr.heap.size, 0, none⟩) 1 1) 1 [.int .u64 0, .int .i64 0, .slice none 0 0] (wr.alloc (boxC 0 0 (.slice none 0 0))) :=
        src_new 3 _ Try.underlying147 _ _ rfl (fun j u hu => by rw [World.cell?_alloc_new]; rcases j with _ | _ | _ | j <;> first | exact hu | (simp at hu)) (fun u hu => by simp at hu; rcases hu with rfl | rfl | rfl <;> rfl)
      have hM1 : MemAt (wr.alloc (boxC 0 0 (.slice none 0 0))) b (own' O w wr) (M.reach n) := hM.but (S := fun _ => False) ((But.refl _ _).alloc _) (fun _ _ e => e)
      have hr1 := hr.but (S := fun _ => False) hbl ((But.refl _ wr).alloc (boxC 0 0 (.slice none 0 0))) (fun _ _ e => e) hM.ob
      have hsl := hr1.sl
      rw [hm] at hsl
      have hc1 := hr1.hd
      rw [hm] at hc1
      have hz1 := hM1.fz0
      have hnb : ¬ inB a b := fun e => (hr.own b e).2 rfl
      have hbl1 : b < (wr.alloc (boxC 0 0 (.slice none 0 0))).heap.size := by simp; omega
      have FIN := hidq (fun g' cap' w' (hF : Flat 3 w' g' cap' (m + 1) (flatC (M.reach n) A C ++ [.int .u64 0, .int .i64 0, .slice none 0 0])) (hb' : But (inB a) (wr.alloc (boxC 0 0 (.slice none 0 0))) w') (hg' : inB a g' ∨ (wr.alloc (boxC 0 0 (.slice none 0 0))).heap.size ≤ g') =>
        mem_grown hM1 hr1 (by rw [hm]; omega) (by rw [hm]; exact hF) hb' hg')
      rw [hm] at FIN
      have FC := hidq (fun w' (hb' : But (inB a) (wr.alloc (boxC 0 0 (.slice none 0 0))) w') => (show w'.cell? ⟨b, 0, none⟩ = some (.slice a m cap) ∧ w'.frozen? ⟨b, 0, none⟩ = false ∧ b < w'.heap.size from
        ⟨(hb'.cell (p := ⟨b, 0, none⟩) hbl1 hnb).trans hc1, (hb'.frozen (p := ⟨b, 0, none⟩) hbl1 hnb).trans hz1, Nat.lt_of_lt_of_le hbl1 hb'.size⟩))
      have HSL := hidq hsl
      have HSR := hidq hsr
      have HMM := hidq hmm
      have HM := hidq hM
      have HM1 := hidq hm
      clear hM1 hr1 hr hsl hsr hmm hM hm hnb hbl1
      go_wp2_with (at_builtin; refine wpList_sl plainC _ rfl (.tmp 15) (.tmp 17) rfl a cap m _ rfl HSL.out _ rfl 1 _ HSR.out (by omega) (by omega) ?_; intro g' cap' w' hF hb' hg'; obtain ⟨fc1, fc2, fc3⟩ := FC.out w' hb'; have HF := hidq hF; have HB := hidq hb'; clear hF hb')
      have hgr := FIN.out g' cap' w' HF.out HB.out hg'
      have hsz := HB.out.size
      rw [World.size_alloc] at hsz
      have hmn : m = max M.len n := HMM.out
      have hB2 : But O w (w'.setCell ⟨b, 0, none⟩ (.slice (some ⟨g', 0, none⟩) (m + 1) cap')) := by
        refine hB.then (T := own' O w wr) (((But.refl _ wr).alloc _).trans hgr.2) (fun k hk e => ?_)
        rcases e with e | e
        · exact e
        · omega
      have hM2 : MemAt (w'.setCell ⟨b, 0, none⟩ (.slice (some ⟨g', 0, none⟩) (m + 1) cap')) b (own' O w (w'.setCell ⟨b, 0, none⟩ (.slice (some ⟨g', 0, none⟩) (m + 1) cap'))) (M.reach (m + 1)) := by
        have h1 := hgr.1
        rw [reach_twice M n (m + 1) (by omega)] at h1
        refine h1.own (fun k hk => ?_) (fun k hk => ?_)
        · rcases hk with (e | e) | e
          · exact .inl e
          · exact .inr ⟨e.1, by rw [World.size_setCell]; omega⟩
          · rw [World.size_alloc] at e; exact .inr ⟨by have := hB.size; omega, by rw [World.size_setCell]; omega⟩
        · rcases hk with e | e
          · exact h1.lt k (.inl (.inl e))
          · exact e.2
      have HM2 := hidq hM2
      have HB2 := hidq hB2
      have hl2 : lenIn (w'.setCell ⟨b, 0, none⟩ (.slice (some ⟨g', 0, none⟩) (m + 1) cap')) b = m + 1 := by rw [lenIn_at hM2]; show max M.len (m + 1) = m + 1; omega
      have hl1' : lenIn wr b = m := by rw [lenIn_at HM.out]; exact HM1.out
      have HL := hidq (And.intro hl2 hl1')
      clear hgr hM2 hB2 hl2 hl1'
      go_wp2
      go_roundw
      case rel => exact ⟨m + 1, by have := HMM.out; omega, HM2.out, HB2.out⟩
      case measure => rw [HL.out.1, HL.out.2]; omega
    · have hl1 : decide ((m : Int) ≤ (i : Int)) = false := decide_eq_false (by omega)
      have hM2 : MemAt wr b (own' O w wr) (M.reach (i + 1)) := by
        have e : M.reach n = M.reach (i + 1) := by unfold Mem.reach; simp only [Mem.mk.injEq, and_true]; omega
        rw [← e]; exact hM
      have HM2 := hidq hM2
      clear hM2 hM hr hmm hm hn
      go_wp2
      go_end0
      exact ⟨rfl, HM2.out, hB⟩
end Go.Proofs.Ythhechgjablklaa
