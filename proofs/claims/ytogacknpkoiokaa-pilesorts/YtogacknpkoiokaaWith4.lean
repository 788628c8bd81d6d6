/-
  The document's list in order: one more.
-/
import Derived.Test.YtogacknpkoiokaaFlat
import Derived.Test.YtogacknpkoiokaaFlat4
import Derived.Test.YtogacknpkoiokaaPileS
namespace Go.Proofs.Ytogacknpkoiokaa
open Go.RowKit Go.Sort

/-- One step of the document's insertion, and all of them. -/
def wstep (x : KI) (r : List KI × Bool) (y : KI) : List KI × Bool := if r.2 = false ∧ x.lt y = true then (r.1 ++ [x] ++ [y], true) else (r.1 ++ [y], r.2)
def wst (x : KI) (L : List KI) : List KI × Bool := L.foldl (wstep x) ([], false)
theorem wst_snoc (x : KI) (L : List KI) (y : KI) : wst x (L ++ [y]) = wstep x (wst x L) y := by simp [wst]
def wth (x : KI) (L : List KI) : List KI := if (wst x L).2 = true then (wst x L).1 else (wst x L).1 ++ [x]
theorem wstep_length (x : KI) (r : List KI × Bool) (y : KI) (n : Nat) (h : r.1.length = n + r.2.toNat) : (wstep x r y).1.length = (n + 1) + (wstep x r y).2.toNat := by
  unfold wstep
  split
  case isTrue e => rw [e.1] at h; simp at h; simp [h]
  case isFalse e => simp [h]; omega
theorem wfold_length (x : KI) : ∀ (M : List KI) (r : List KI × Bool) (n : Nat), r.1.length = n + r.2.toNat → (M.foldl (wstep x) r).1.length = n + M.length + (M.foldl (wstep x) r).2.toNat
  | [], r, n, h => h
  | y :: M, r, n, h => by
    have := wfold_length x M _ _ (wstep_length x r y n h)
    rw [List.foldl_cons, this, List.length_cons]; omega
theorem wst_length (x : KI) (L : List KI) : (wst x L).1.length = L.length + (wst x L).2.toNat := by
  have := wfold_length x L ([], false) 0 rfl
  rw [Nat.zero_add] at this
  exact this
theorem wth_length (x : KI) (L : List KI) : (wth x L).length = L.length + 1 := by
  have := wst_length x L
  unfold wth
  split
  case isTrue e => rw [e] at this; exact this
  case isFalse e => rw [Bool.not_eq_true] at e; rw [e] at this; simp [this]

set_option maxHeartbeats 2000000 in
theorem with_any (g cap : Nat) (L : List KI) (x : KI) (w : World) (h : Flat 2 w g cap L.length (flatR L)) (hn : L.length ≤ 1000000) :
    Calls Try.prog 13 #[.slice (some ⟨g, 0, none⟩) L.length cap, .agg #[.int .u64 (ni x.b), .int .i64 x.v]] w fun e w' => ∃ g' cap', e = .returned (.slice (some ⟨g', 0, none⟩) (L.length + 1) cap') ∧ w.heap.size ≤ g' ∧ Flat 2 w' g' cap' (L.length + 1) (flatR (wth x L)) ∧ Below w.heap.size w w' := by
  have hglt := h.lt
  have hx0 : 0 ≤ ni x.b ∧ ni x.b < 18446744073709551616 := by have := x.ok.1; unfold ni; omega
  go_enter Try.func13, Try.ntmps13
  go_wp2
  go_loopw [5, 6, 12] (fun o dn c wr => ∃ (k g' cap' : Nat), c = .int .i64 (k : Int) ∧ k ≤ L.length ∧ dn = .bool (wst x (L.take k)).2 ∧ o = .slice (some ⟨g', 0, none⟩) (wst x (L.take k)).1.length cap' ∧ w.heap.size < g' ∧ Flat 2 wr g' cap' (wst x (L.take k)).1.length (flatR (wst x (L.take k)).1) ∧ Below w.heap.size w wr ∧ wr.cell? ⟨w.heap.size, 0, none⟩ = some (.int .u64 (ni x.b)) ∧ wr.cell? ⟨w.heap.size, 1, none⟩ = some (.int .i64 x.v)) (fun _ _ c _ => L.length - (intOf c).toNat)
  case atStart =>
    exact ⟨0, w.heap.size + 1, 0, rfl, Nat.zero_le _, rfl, rfl, Nat.lt_succ_self _, by have := Flat.new (w.alloc (.cells #[.int .u64 (ni x.b), .int .i64 x.v] 35)) [] 35 2 0 rfl (Nat.zero_le _) (fun _ h => (by cases h)); rw [World.size_alloc] at this; exact this, ((Below.refl _ _).alloc (Nat.le_refl _) _).alloc (by simp) _, by simp, by simp⟩
  case round =>
    obtain ⟨k, g', cap', rfl, hk, rfl, rfl, hg', hF, hB, cx0, cx1⟩ := hrel
    have hl := wst_length x (L.take k)
    have hbl : w.heap.size < wr.heap.size := World.block_lt_of_cell? _ _ cx0
    by_cases hlt : k < L.length
    · have hst : wst x (L.take (k + 1)) = wstep x (wst x (L.take k)) L[k] := by rw [← wst_snoc, List.take_succ_eq_append_getElem hlt]
      have hc0 := (hB.cell (p := ⟨g, k * 2, none⟩) hglt).trans (h.cell _ _ (flatR_get L k hlt).1)
      have hc1 := (hB.cell (p := ⟨g, k * 2 + 1, none⟩) hglt).trans (h.cell _ _ (flatR_get L k hlt).2)
      have hk1 : (k : Int) < (L.length : Int) := by omega
      generalize L[k] = y at *
      have hy0 : 0 ≤ ni y.b ∧ ni y.b < 18446744073709551616 := by have := y.ok.1; unfold ni; omega
      have hcm := hidd (fun w => rcmp4_any (ni x.b) x.v (ni y.b) y.v w hx0.1 hx0.2 hy0.1 hy0.2)
      rw [nf_ni, nf_ni] at hcm
      have hLT : x.lt y = decide (cmpN x.b x.v y.b y.v < 0) := rfl
      have hsl : (wst x (L.take k)).1.length ≤ 1000001 := by rw [hl, List.length_take]; have := Bool.toNat_le (wst x (L.take k)).2; omega
      obtain ⟨r, hr⟩ : ∃ r, wst x (L.take k) = r := ⟨_, rfl⟩
      rw [hr] at hst hF hsl ⊢
      obtain ⟨o, dn⟩ := r
      simp only at hF hsl ⊢
      have hgl := hF.lt
      have FIN : Hid (∀ (o2 : List KI) (d2 : Bool) (g2 cap2 n2 : Nat) (l2 : List Value) (w2 : World), wstep x (o, dn) y = (o2, d2) → n2 = o2.length → l2 = flatR o2 → Flat 2 w2 g2 cap2 n2 l2 → (g2 = g' ∨ wr.heap.size ≤ g2) → But (fun j => j = g') wr w2 →
          ∃ (k_1 g' cap' : Nat), Value.int .i64 ((k : Int) + 1) = .int .i64 (k_1 : Int) ∧ k_1 ≤ L.length ∧ Value.bool d2 = .bool (wst x (List.take k_1 L)).2 ∧ Value.slice (some ⟨g2, 0, none⟩) n2 cap2 = .slice (some ⟨g', 0, none⟩) (wst x (List.take k_1 L)).1.length cap' ∧ w.heap.size < g' ∧
            Flat 2 w2 g' cap' (wst x (List.take k_1 L)).1.length (flatR (wst x (List.take k_1 L)).1) ∧ Below w.heap.size w w2 ∧ w2.cell? ⟨w.heap.size, 0, none⟩ = some (.int .u64 (ni x.b)) ∧ w2.cell? ⟨w.heap.size, 1, none⟩ = some (.int .i64 x.v)) := by
        intro o2 d2 g2 cap2 n2 l2 w2 h1 hn2 hl2 h2 h3 h4
        subst hn2; subst hl2
        have hne : ¬ (w.heap.size = g') := by omega
        refine ⟨k + 1, g2, cap2, rfl, by omega, ?_, ?_, by omega, ?_, hB.trans (h4.below hB.size (fun j e => by omega)), (h4.cell (p := ⟨w.heap.size, 0, none⟩) hbl hne).trans cx0, (h4.cell (p := ⟨w.heap.size, 1, none⟩) hbl hne).trans cx1⟩
        all_goals rw [hst, h1]
        exact h2
      have HF := hidd hF
      have HSL := hidd hsl
      clear hl hr hst hF hx0 hy0 hsl
      cases dn
      · have hbx : But (fun _ => False) wr (wr.alloc (.cells #[.int .u64 (ni y.b), .int .i64 y.v] 35)) := (But.refl _ _).alloc _
        have d0 := (hbx.cell (p := ⟨w.heap.size, 0, none⟩) hbl id).trans cx0
        have d1 := (hbx.cell (p := ⟨w.heap.size, 1, none⟩) hbl id).trans cx1
        clear hbx d0 d1
        go_wp2_with fail
        refine (hcm.out _).mono ?_
        rintro e w3 ⟨rfl, hb3⟩
        have hB3 : But (fun _ => False) wr w3 := ((But.refl _ _).alloc _).trans (But.of_below hb3)
        have hz3 : wr.heap.size < w3.heap.size := by have := hb3.size; simp at this; omega
        have y0 : w3.cell? ⟨wr.heap.size, 0, none⟩ = some (.int .u64 (ni y.b)) := by rw [hb3.cell (p := ⟨wr.heap.size, 0, none⟩) (by simp)]; simp
        have y1 : w3.cell? ⟨wr.heap.size, 1, none⟩ = some (.int .i64 y.v) := by rw [hb3.cell (p := ⟨wr.heap.size, 1, none⟩) (by simp)]; simp
        have x0 := (hB3.cell (p := ⟨w.heap.size, 0, none⟩) hbl id).trans cx0
        have x1 := (hB3.cell (p := ⟨w.heap.size, 1, none⟩) hbl id).trans cx1
        cases hc : x.lt y
        · have hst : wstep x (o, false) y = (o ++ [y], false) := by unfold wstep; rw [if_neg (by rw [hc]; simp)]
          have hcc : decide (cmpN x.b x.v y.b y.v < 0) = false := hLT.symm.trans hc
          have HH := hidd hst
          clear hst hc hLT hcm hb3
          generalize cmpN x.b x.v y.b y.v = cc at *
          go_wp2_with (at_builtin; refine wpList_flat plainR _ rfl (.tmp 28) (.tmp 30) rfl g' cap' _ (flatR o) rfl (HF.out.but (S := fun _ => False) (hB3.alloc _) id) _ rfl 1 _ (src_two _ Try.underlying26 _ (.int .u64 (ni y.b)) (.int .i64 y.v) (by simp) (by simp) rfl rfl) (by have := HSL.out; omega) ?_; intro g2 cap2 w2 hF2 hb2 hg2)
          refine ⟨FIN.out _ _ g2 cap2 _ _ w2 HH.out (by simp) (by rw [flatR_append]; rfl) hF2 (by rcases hg2 with e | e; exact .inl e; simp at e; exact .inr (by omega)) (((hB3.alloc _).mono (fun _ _ e => e.elim)).trans hb2), ?_⟩
          simp [intOf]; omega
        · have hst : wstep x (o, false) y = (o ++ [x] ++ [y], true) := by unfold wstep; rw [if_pos ⟨rfl, hc⟩]
          have hcc : cmpN x.b x.v y.b y.v < 0 := of_decide_eq_true (hLT.symm.trans hc)
          have HH := hidd hst
          clear hst hc hLT hcm hb3
          generalize cmpN x.b x.v y.b y.v = cc at *
          go_wp2_with (at_builtin; first
            | (refine wpList_flat plainR _ rfl (.tmp 24) (.tmp 26) rfl g' cap' _ (flatR o) rfl (HF.out.but (S := fun _ => False) (hB3.alloc _) id) _ rfl 1 _ (src_two _ Try.underlying26 _ (.int .u64 (ni x.b)) (.int .i64 x.v) (by simp) (by simp) rfl rfl) (by have := HSL.out; omega) ?_
               intro g2 cap2 w2 hF2 hb2 hg2
               have hB2 : But (fun j => j = g') wr w2 := ((hB3.alloc _).mono (fun _ _ e => e.elim)).trans hb2
               have hne : ¬ (wr.heap.size = g') := by omega
               have y0' : w2.cell? ⟨wr.heap.size, 0, none⟩ = some (.int .u64 (ni y.b)) := by rw [hb2.cell (p := ⟨wr.heap.size, 0, none⟩) (by simp; omega) hne, (((But.refl (fun _ => False) w3).alloc _).cell (p := ⟨wr.heap.size, 0, none⟩) hz3 id)]; exact y0
               have y1' : w2.cell? ⟨wr.heap.size, 1, none⟩ = some (.int .i64 y.v) := by rw [hb2.cell (p := ⟨wr.heap.size, 1, none⟩) (by simp; omega) hne, (((But.refl (fun _ => False) w3).alloc _).cell (p := ⟨wr.heap.size, 1, none⟩) hz3 id)]; exact y1
               have hz2 : wr.heap.size < w2.heap.size := World.block_lt_of_cell? _ _ y0'
               have HF2 := hidd hF2
               have HG2 := hidd hg2
               clear hF2 hg2 hb2)
            | (refine wpList_flat plainR _ rfl (.tmp 28) (.tmp 30) rfl g2 cap2 _ _ rfl (HF2.out.but (S := fun _ => False) ((But.refl _ _).alloc _) id) _ rfl 1 _ (src_two _ Try.underlying26 _ (.int .u64 (ni y.b)) (.int .i64 y.v) (by simp) (by simp) rfl rfl) (by have := HSL.out; omega) ?_
               intro g4 cap4 w4 hF4 hb4 hg4))
          have hs3 : wr.heap.size ≤ w3.heap.size := Nat.le_of_lt hz3
          have hg2 := HG2.out
          rw [World.size_alloc] at hg2 hg4
          refine ⟨FIN.out _ _ g4 cap4 _ _ w4 HH.out (by simp) (by rw [flatR_append, flatR_append]; rfl) hF4 (by omega) (hB2.then (T := fun j => j = g2) (((But.refl _ _).alloc _).trans hb4) (fun i hi e => by omega)), ?_⟩
          simp [intOf]; omega
      · have hst : wstep x (o, true) y = (o ++ [y], true) := by unfold wstep; rw [if_neg (by simp)]
        have HH := hidd hst
        clear hst hLT hcm
        go_wp2_with (at_builtin; refine wpList_flat plainR _ rfl (.tmp 28) (.tmp 30) rfl g' cap' _ (flatR o) rfl (HF.out.but (S := fun _ => False) (((But.refl _ _).alloc _).alloc _) id) _ rfl 1 _ (src_two _ Try.underlying26 _ (.int .u64 (ni y.b)) (.int .i64 y.v) (by simp) (by simp) rfl rfl) (by have := HSL.out; omega) ?_; intro g2 cap2 w2 hF2 hb2 hg2)
        refine ⟨FIN.out _ _ g2 cap2 _ _ w2 HH.out (by simp) (by rw [flatR_append]; rfl) hF2 (by rcases hg2 with e | e; exact .inl e; simp at e; exact .inr (by omega)) (((((But.refl _ _).alloc _).alloc _)).trans hb2), ?_⟩
        simp [intOf]; omega
    · have hkL : k = L.length := by omega
      subst hkL
      rw [List.take_length] at hF hl ⊢
      have hsl : (wst x L).1.length ≤ 1000001 := by rw [hl]; have := Bool.toNat_le (wst x L).2; omega
      cases hd : (wst x L).2
      · have hw : wth x L = (wst x L).1 ++ [x] := by unfold wth; rw [hd]; rfl
        have hl2 : (wst x L).1.length = L.length := by rw [hl, hd]; rfl
        have HW := hidd hw
        have HL := hidd hl2
        have HF := hidd hF
        have HSL := hidd hsl
        have hgl := hF.lt
        clear hw hl2 hF hsl hl hd hx0
        generalize (wst x L).1 = o at *
        go_wp2_with (at_builtin; refine wpList_flat plainR _ rfl (.tmp 35) (.tmp 37) rfl g' cap' _ (flatR o) rfl (HF.out.but (S := fun _ => False) ((But.refl _ _).alloc _) id) _ rfl 1 _ (src_two _ Try.underlying26 _ (.int .u64 (ni x.b)) (.int .i64 x.v) (by simp) (by simp) rfl rfl) (by have := HSL.out; omega) ?_; intro g2 cap2 w2 hF2 hb2 hg2)
        go_ret
        rw [HL.out] at hF2 ⊢
        rw [World.size_alloc] at hg2
        refine ⟨g2, cap2, rfl, by have := hB.size; omega, ?_, hB.trans ((((But.refl _ _).alloc _).trans hb2).below hB.size (fun j e => by omega))⟩
        rw [HW.out, flatR_append]; exact hF2
      · have hw : wth x L = (wst x L).1 := by unfold wth; rw [hd]; rfl
        have hl2 : (wst x L).1.length = L.length + 1 := by rw [hl, hd]; rfl
        have HW := hidd hw
        have HL := hidd hl2
        have HF := hidd hF
        clear hw hl2 hF hsl hl hd hx0
        generalize (wst x L).1 = o at *
        go_wp2
        go_ret
        refine ⟨g', cap', ?_, by omega, ?_, hB⟩
        · rw [HL.out]; rfl
        · rw [HW.out, ← HL.out]; exact HF.out
end Go.Proofs.Ytogacknpkoiokaa
