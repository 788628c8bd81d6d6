/-
  A region that draws its order: the operations of its head by a property of each value, in whatever order; then, when all of them have come up, its tail, one by one.
-/
import Derived.Test.YtbcmilfajeanbaaGreatFits5All
import Derived.StillTailTactics
namespace Go.Proofs.YtbcmilfajeanbaaGreat.Reg
open Go

/-- The head is listed, and nothing else. -/
def headL (m n : Nat) : Array Bool := (Array.range m).map fun i => decide (i < n)
theorem headL_get (m n i : Nat) : (headL m n)[i]? = if i < m then some (decide (i < n)) else none := by
  unfold headL
  rw [Array.getElem?_map, Array.getElem?_range]
  split <;> rfl
theorem headL_eq {L : Array Bool} {m n : Nat} (hs : L.size = m) (hh : ∀ i, i < n → L.getD i false = true) (ht : ∀ t, n ≤ t → t < m → L.getD t true = false) : L = headL m n := by
  apply Array.ext_getElem?
  intro i
  rw [headL_get]
  by_cases hi : i < m
  · rw [if_pos hi, Array.getElem?_eq_getElem (by omega)]
    by_cases h : i < n
    · have := hh i h
      rw [Array.getD_eq_getD_getElem?, Array.getElem?_eq_getElem (by omega)] at this
      simp only [Option.getD_some] at this
      rw [this]; simp [h]
    · have := ht i (by omega) hi
      rw [Array.getD_eq_getD_getElem?, Array.getElem?_eq_getElem (by omega)] at this
      simp only [Option.getD_some] at this
      rw [this]; simp [h]
  · rw [if_neg hi, Array.getElem?_eq_none (by omega)]

/-- The head waits for nothing of the tail, the tail goes one by one. -/
def tailB (ops : Array Oper) (n : Nat) : Bool :=
  decide (n < ops.size) && Region.sinkB .any ops n && Region.chainB .any ops n && Region.seqB .any ops (ops.size - n) n (headL ops.size n)

theorem countP_drop {l : List Bool} {n : Nat} (h : ∀ t, n ≤ t → t < l.length → l[t]? = some false) : l.length - n ≤ l.countP (! ·) := by
  have h1 : (l.drop n).countP (! ·) ≤ l.countP (! ·) := List.Sublist.countP_le (List.drop_sublist n l)
  have h2 : (l.drop n).countP (! ·) = (l.drop n).length := by
    rw [List.countP_eq_length]
    intro a ha
    obtain ⟨i, hi, rfl⟩ := List.getElem_of_mem ha
    have hi' : i < l.length - n := by simpa using hi
    have := h (n + i) (by omega) (by omega)
    rw [List.getElem_drop]
    rw [List.getElem?_eq_getElem (by omega)] at this
    simp only [Option.some.injEq] at this
    simp [this]
  rw [h2, List.length_drop] at h1
  exact h1

section
variable {P : Program} {ops : Array Oper} {a0 : Act} {R : Nat → Value → World → Prop} {Pres : World → World → Prop} {Inv : Array Bool → World → Prop}

theorem tail_count {L : Array Bool} {n : Nat} (hi : HeadInv .any ops n L) : ops.size - n ≤ L.toList.countP (! ·) := by
  have := countP_drop (l := L.toList) (n := n) (fun t ht hl => by
    have h1 : t < L.size := by simpa using hl
    have := hi.tail t ht (by rw [← hi.size]; exact h1)
    rw [Array.getD_eq_getD_getElem?, Array.getElem?_eq_getElem h1] at this
    simp only [Option.getD_some] at this
    rw [Array.getElem?_toList, Array.getElem?_eq_getElem h1, this])
  rw [← hi.size]
  simpa using this

theorem wpAny_of_steps_tail {n : Nat} {l : List Oper} {Q : Exit → Act → World → Prop} (hl : l.toArray = ops) (hf : fineB ops a0.tmps.size = true) (hB : tailB ops n = true) (hR : ∀ j v w w', Pres w w' → R j v w → R j v w') (hrefl : ∀ w, Pres w w)
    (hs : ∀ i o, i < n → ops[i]? = some o → StepAt P ops a0 R Pres Inv i o)
    (hend : ∀ a w, Inv (headL ops.size n) w → Fits ops a0 R (headL ops.size n) a w → wpList P ops Q (l.drop n) a w) :
    ∀ (m : Nat) (L : Array Bool) (a : Act) (w : World), L.toList.countP (! ·) = m + (ops.size - n) → HeadInv .any ops n L → Inv L w → Fits ops a0 R L a w → wpAny P .any ops Q (m + (ops.size - n)) L a w := by
  simp only [tailB, Bool.and_eq_true, decide_eq_true_eq] at hB
  obtain ⟨⟨⟨hn, hsink⟩, hchain⟩, hseq⟩ := hB
  have hdl : (l.drop n).length = ops.size - n := by rw [← hl]; simp
  intro m
  induction m with
  | zero =>
    intro L a w hc hH hI hF
    have hall : ∀ i, i < n → L.getD i false = true := fun i hi => by
      cases h : L.getD i false with
      | true => rfl
      | false =>
        exfalso
        have hil : i < L.size := by rw [hH.size]; omega
        have hun : L.getD i true = false := getD_in hil h
        have h1 := count_set hun
        have h2 : HeadInv .any ops n (headL ops.size n) → True := fun _ => trivial
        have h3 := countP_drop (l := (L.setIfInBounds i true).toList) (n := n) (fun t ht hl => by
          have h1 : t < L.size := by simpa using hl
          have := hH.tail t ht (by rw [← hH.size]; exact h1)
          rw [Array.getD_eq_getD_getElem?, Array.getElem?_eq_getElem h1] at this
          simp only [Option.getD_some] at this
          rw [Array.getElem?_toList, Array.getElem?_setIfInBounds, if_neg (by omega), Array.getElem?_eq_getElem h1, this])
        have h4 : (L.setIfInBounds i true).toList.length = ops.size := by simp [hH.size]
        rw [h4] at h3
        omega
    have hLe : L = headL ops.size n := headL_eq hH.size hall hH.tail
    have := wpAny_of_seq (P := P) (ops := ops) (md := .any) (Q' := Q) (l.drop n) n L a w (fun j => by rw [← hl]; simp [List.getElem?_drop]) (by rw [hdl, hLe]; exact hseq) (hend a w (hLe ▸ hI) (hLe ▸ hF))
    rw [hdl] at this
    rw [Nat.zero_add]
    exact this
  | succ m ih =>
    intro L a w hc hH hI hF
    have hex : ∃ i, i < n ∧ L.getD i true = false := by
      rcases Classical.em (∃ i, i < n ∧ L.getD i true = false) with h | h
      · exact h
      · exfalso
        have hall : ∀ i, i < n → L.getD i false = true := fun i hi => by
          cases h2 : L.getD i false with
          | true => rfl
          | false => exact absurd ⟨i, hi, getD_in (by rw [hH.size]; omega) h2⟩ h
        have hLe : L = headL ops.size n := headL_eq hH.size hall hH.tail
        have h5 : (headL ops.size n).toList.countP (! ·) ≤ ops.size - n := by
          have e : (headL ops.size n).toList = (headL ops.size n).toList.take n ++ (headL ops.size n).toList.drop n := (List.take_append_drop n _).symm
          rw [e, List.countP_append]
          have z : ((headL ops.size n).toList.take n).countP (! ·) = 0 := by
            rw [List.countP_eq_zero]
            intro b hb
            obtain ⟨i, hi, rfl⟩ := List.getElem_of_mem hb
            have hi' : i < n ∧ i < ops.size := by simp [headL] at hi; omega
            simp [headL, hi'.1]
          have y : ((headL ops.size n).toList.drop n).countP (! ·) ≤ ops.size - n := by
            refine Nat.le_trans List.countP_le_length ?_
            simp [headL]
          omega
        rw [← hLe] at h5
        omega
    obtain ⟨i0, hi0, hun0⟩ := hex
    have hnt : ∀ t, n ≤ t → t ∉ Region.ready .any ops L := tail_waits hsink hchain hn hH _ i0 rfl hi0 hun0
    rw [show m + 1 + (ops.size - n) = (m + (ops.size - n)) + 1 by omega]
    refine ⟨fun hr => ?_, fun i hi => ?_⟩
    · exfalso
      have := all_listed hf hF.lsize hr i0 (by omega)
      rw [getD_both hun0] at this
      cases this
    · have hin : i < n := by
        rcases Nat.lt_or_ge i n with h | h
        · exact h
        · exact absurd hi (hnt i h)
      obtain ⟨h0, o, ho, hall⟩ := mem_ready.1 hi
      have hst := hs i o hin ho L a.eval w hI h0 hall hF.at
      have hcs := count_set h0
      have hH' := hH.set hi hin
      unfold wpOp
      simp only [ho]
      have go : Outcome P (fun v w' => R i v w' ∧ Pres w w' ∧ Inv (L.setIfInBounds i true) w') ((execOp a.eval o).run P w) →
          o.wp P a w (wpAny P .any ops Q (m + (ops.size - n)) (L.setIfInBounds i true)) Q := fun h =>
        outcome_wp h fun v w' ⟨h1, h2, h3⟩ => ih _ _ _ (by omega) hH' h3 (hF.put hf ho hall (fun j v => hR j v w w' h2) (fun _ => h1))
      cases hg : o.guard with
      | none =>
        rw [hg] at hst
        rw [if_pos (by simp [Region.wanted, hg])]
        exact .inl (go hst)
      | some gw =>
        obtain ⟨g, want⟩ := gw
        rw [hg] at hst
        rcases hst with ⟨og, t, b, hog, hd, hev, hcase⟩ | ⟨og, t, hog, hd, hev, hcase⟩
        case inr =>
          have hy : yielded ops a.tmps g = none := yielded_undef hog hd hev
          rw [if_neg (by simp [Region.wanted, hg, hy])]
          exact ih _ _ _ (by omega) hH' hcase.2 (hF.put hf ho hall (fun j v => hR j v w w (hrefl w)) (fun _ => hcase.1))
        have hy : yielded ops a.tmps g = some b := by
          have hb : a.tmps[t]? = some (.bool b) := by
            have : a.tmps.getD t undef = .bool b := hev
            rw [Array.getD_eq_getD_getElem?] at this
            cases h : a.tmps[t]? with
            | none => rw [h] at this; cases this
            | some y => rw [h] at this; simpa using this
          simp [yielded, hog, hd, hb]
        by_cases hbw : b = want
        · rw [if_pos hbw] at hcase
          rw [if_pos (by simp [Region.wanted, hg, hy, hbw])]
          exact .inl (go hcase)
        · rw [if_neg hbw] at hcase
          rw [if_neg (by simp [Region.wanted, hg, hy, hbw])]
          exact ih _ _ _ (by omega) hH' hcase.2 (hF.put hf ho hall (fun j v => hR j v w w (hrefl w)) (fun _ => hcase.1))
end

/-- THE RULE: the head in whatever order, then the tail. -/
theorem wp_region_props_tail {P : Program} {a0 : Act} {id : Nat} {l : List Oper} {Q : Exit → Act → World → Prop} {w : World} (n : Nat) (R : Nat → Value → World → Prop) (Pres : World → World → Prop) (Inv : Array Bool → World → Prop)
    (hm : P.follows .mixedOrders = true) (hf : fineB l.toArray a0.tmps.size = true) (hB : tailB l.toArray n = true) (hR : ∀ j v w w', Pres w w' → R j v w → R j v w') (hrefl : ∀ w, Pres w w)
    (hI : Inv (Array.replicate l.length false) w.drew)
    (hs : AllSteps P l.toArray a0 R Pres Inv 0 (l.take n))
    (hend : ∀ a w, Inv (headL l.length n) w → Fits l.toArray a0 R (headL l.length n) a w → wpList P l.toArray Q (l.drop n) a w) : (Code.region id l.toArray true).wp P Q a0 w := by
  refine wp_region_any hm ?_
  have hn : n < l.length := by
    simp only [tailB, Bool.and_eq_true, decide_eq_true_eq] at hB
    simpa using hB.1.1.1
  have := wpAny_of_steps_tail (P := P) (ops := l.toArray) (a0 := a0) (R := R) (Pres := Pres) (Inv := Inv) (n := n) (l := l) (Q := Q) rfl hf hB hR hrefl (fun i o hi ho => by
      have := hs.at (l.take n) 0 i o (by rw [List.getElem?_take, if_pos hi]; simpa using ho)
      simpa using this) (by simpa using hend) n (Array.replicate l.length false) a0 w.drew (by simp [List.countP_replicate]; omega)
    ⟨by simp, fun j oj _ hl => (by rw [getD_replicate_false] at hl; cases hl), fun t _ ht => getD_in (by simpa using ht) (getD_replicate_false _ _)⟩ hI
    ⟨rfl, rfl, by simp, fun j o t ho hL => (by rw [getD_replicate_false] at hL; cases hL), fun _ _ => rfl, fun j oj _ hl => (by rw [getD_replicate_false] at hl; cases hl)⟩
  have he : n + (l.toArray.size - n) = l.toArray.size := by simp; omega
  rw [he] at this
  simpa using this

/-- The slots behind the head, written out. -/
def coversHeadB (ops : Array Oper) (n : Nat) (ds : List Nat) : Bool := (List.range n).all fun j => match (ops[j]?).bind (·.dst) with | none => true | some t => ds.contains t
theorem coversHead_at {ops : Array Oper} {n : Nat} {ds : List Nat} (h : coversHeadB ops n ds = true) {j t : Nat} {o : Oper} (hj : j < n) (ho : ops[j]? = some o) (hd : o.dst = some t) : ds.contains t = true := by
  have := List.all_eq_true.1 h j (List.mem_range.2 hj)
  simp only [ho, Option.bind_some, hd] at this
  exact this
theorem headL_lt {m n j : Nat} (h : (headL m n).getD j false = true) : j < n := by
  rw [Array.getD_eq_getD_getElem?, headL_get] at h
  split at h
  · simpa using h
  · cases h
theorem Fits.actHead {ops : Array Oper} {a0 : Act} {R : Nat → Value → World → Prop} {m n : Nat} {a : Act} {w : World} (hF : Fits ops a0 R (headL m n) a w) (ds : List Nat) (hc : coversHeadB ops n ds = true) :
    a = ⟨ds.foldl (fun T t => T.setIfInBounds t (a.eval (.tmp t))) a0.tmps, a0.defers⟩ := by
  have hsz := hF.size
  have hdf := hF.defers
  have hold : ∀ t, ds.contains t = false → a.eval (.tmp t) = a0.eval (.tmp t) := fun t ht => hF.old t (fun j o ho hL hd => by rw [coversHead_at hc (headL_lt hL) ho hd] at ht; cases ht)
  have hev : ∀ t, a.eval (.tmp t) = a.tmps.getD t undef := fun _ => rfl
  have hev0 : ∀ t, a0.eval (.tmp t) = a0.tmps.getD t undef := fun _ => rfl
  have ht : a.tmps = ds.foldl (fun T t => T.setIfInBounds t (a.eval (.tmp t))) a0.tmps := by
    apply Array.ext_getElem?
    intro i
    by_cases hi : i < a0.tmps.size
    · rw [fold_get (fun t => a.eval (.tmp t)) ds a0.tmps i hi]
      have hia : i < a.tmps.size := by rw [hsz]; exact hi
      cases e : ds.contains i
      · rw [if_neg (by decide)]
        have := hold i e
        rw [hev, hev0, Array.getD_eq_getD_getElem?, Array.getD_eq_getD_getElem?, Array.getElem?_eq_getElem hia, Array.getElem?_eq_getElem hi] at this
        rw [Array.getElem?_eq_getElem hia, Array.getElem?_eq_getElem hi]
        exact congrArg some this
      · rw [if_pos rfl, hev, Array.getD_eq_getD_getElem?, Array.getElem?_eq_getElem hia]
        rfl
    · rw [Array.getElem?_eq_none (by rw [hsz]; omega), Array.getElem?_eq_none (by rw [fold_size]; omega)]
  obtain ⟨t, d⟩ := a
  simp only at hdf
  subst hdf
  exact congrArg (fun q => (⟨q, a0.defers⟩ : Act)) ht
end Go.Proofs.YtbcmilfajeanbaaGreat.Reg
