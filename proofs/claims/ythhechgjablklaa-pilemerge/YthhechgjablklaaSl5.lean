/-
  Slices that are nil or lie at the beginning of a block of their own, by their cells one behind the other: appending, copying.
-/
import Derived.Test.YthhechgjablklaaBase
namespace Go.Proofs.Ythhechgjablklaa
open Go.RowKit Go.Sort


/-- A slice of n elements of k cells each, l one behind the other. -/
def SlAt (k : Nat) (w : World) (a : Option Addr) (cap n : Nat) (l : List Value) : Prop :=
  (a = none ∧ n = 0 ∧ cap = 0 ∧ l = []) ∨ ∃ g, a = some ⟨g, 0, none⟩ ∧ Flat k w g cap n l
/-- The block of a slice. -/
def inB (a : Option Addr) (k : Nat) : Prop := ∃ x, a = some x ∧ x.block = k

section
variable {k cap n : Nat} {a : Option Addr} {l : List Value} {w w' : World} {S : Nat → Prop}
theorem SlAt.nil (k : Nat) (w : World) : SlAt k w none 0 0 [] := .inl ⟨rfl, rfl, rfl, rfl⟩
theorem SlAt.len (h : SlAt k w a cap n l) : l.length = n * k := by
  rcases h with ⟨_, rfl, _, rfl⟩ | ⟨g, _, h⟩
  · simp
  · exact h.len
theorem SlAt.but (h : SlAt k w a cap n l) (hb : But S w w') (hS : ∀ j, inB a j → ¬ S j) : SlAt k w' a cap n l := by
  rcases h with h | ⟨g, rfl, h⟩
  · exact .inl h
  · exact .inr ⟨g, rfl, h.but hb (hS g ⟨_, rfl, rfl⟩)⟩
theorem SlAt.below (h : SlAt k w a cap n l) (hb : Below w.heap.size w w') : SlAt k w' a cap n l := h.but (S := fun _ => False) (But.of_below hb) (fun _ _ e => e)
theorem SlAt.lt (h : SlAt k w a cap n l) : ∀ j, inB a j → j < w.heap.size := by
  rintro j ⟨x, hx, rfl⟩
  rcases h with ⟨h, _⟩ | ⟨g, h, hf⟩
  · rw [h] at hx; cases hx
  · rw [h] at hx; cases hx; exact hf.lt
theorem SlAt.le (h : SlAt k w a cap n l) : n ≤ cap := by
  rcases h with ⟨_, rfl, rfl, rfl⟩ | ⟨g, _, h⟩
  · exact Nat.le_refl _
  · exact h.le
theorem SlAt.cell (h : SlAt k w a cap n l) {t : Nat} {u : Value} (hu : l[t]? = some u) : ∃ g, a = some ⟨g, 0, none⟩ ∧ g < w.heap.size ∧ w.cell? ⟨g, t, none⟩ = some u := by
  rcases h with ⟨_, _, _, rfl⟩ | ⟨g, h, hf⟩
  · simp at hu
  · exact ⟨g, h, hf.lt, hf.cell t u hu⟩
theorem SlAt.src {P : Program} {tx e : TypeId} (h : SlAt k w a cap n l) (hk : P.underlying tx = some (.slice e)) : Src P k tx (.slice a n cap) n l w := by
  rcases h with ⟨rfl, rfl, rfl, rfl⟩ | ⟨g, rfl, hf⟩
  · exact Src.ofNil w hk 0
  · exact hf.src hk
end

/-- Appending onto nil. -/
theorem nil_append {P : Program} (k : Nat) (T E ty : TypeId) (i : TypeInfo) (z : Value) (hT : P.underlying T = some (.slice E)) (hi : P.info? E = some i) (hz : i.zero = some z) (hsz : i.size = k) (hzc : z.cells.size = k)
    (w : World) (x : Value) (m : Nat) (ys : List Value) (hs : Src P k T x m ys w) (hm : 0 < m) (hmx : m ≤ maxLen) (hby : m * i.bytes ≤ 140737488355328) :
    ∃ g' cap' w', (Builtin.append_ #[T, T] ty #[.slice none 0 0, x]).run P w = .ok (.slice (some ⟨g', 0, none⟩) m cap') w' ∧
      Flat k w' g' cap' m ys ∧ Below w.heap.size w w' ∧ w.heap.size ≤ g' := by
  subst hsz
  have hyl := hs.newsLen
  have hold : (Builtin.firstCells i.size 0 (.slice none 0 0)).run P w.drew = .ok ([] : List Value).toArray w.drew := run_firstCells_none w.drew i.size 0 0 0
  have h63 : ((0 + m : Nat) : Int) ≤ 9223372036854775807 := by unfold maxLen at hmx; omega
  have hr := run_append_grow_src (P := P) w T T ty E i z hT hi hz none 0 0 [] hold x m ys hs (by omega) h63 (growslice_fits (by omega) (by rw [Nat.zero_add]; exact hby))
  rw [Nat.zero_add] at hr
  have hge := grownCap_ge w m 0 E
  have hcm := grownCap_le_maxLen w m 0 E hmx
  generalize grownCap w m 0 E = C at hr hge hcm
  rw [List.nil_append] at hr
  have hc : ∀ j, (w.drew.alloc (.cells (ys.toArray ++ Builtin.zeroCells z.cells (C - m)) E)).cell? ⟨w.heap.size, j, none⟩ = (ys.toArray ++ Builtin.zeroCells z.cells (C - m))[j]? := fun j => World.cell?_alloc_new w.drew _ _ j
  refine ⟨w.heap.size, C, _, hr, ?_, ⟨rfl, rfl, rfl, by simp, fun j hj => Below.heap_alloc w.drew _ j hj⟩, Nat.le_refl _⟩
  refine ⟨by simp, hyl, hge, hcm, ?_, hs.one, ?_⟩
  · intro t u hu
    have ht : t < ys.length := (List.getElem?_eq_some_iff.1 hu).1
    rw [hc, Array.getElem?_append_left (by simpa using ht), List.getElem?_toArray]
    exact hu
  · intro j hj
    refine ⟨?_, World.frozen?_alloc_new w.drew _ _ _⟩
    rw [hc]
    have : j < (ys.toArray ++ Builtin.zeroCells z.cells (C - m)).size := by
      rw [Array.size_append, size_zeroCells, List.size_toArray, hyl]
      have e2 : m * i.size + (C - m) * i.size = C * i.size := by rw [← Nat.add_mul]; congr 1; omega
      rw [hzc]
      first | omega | (rw [Nat.mul_comm] at e2; omega)
    rw [Array.getElem?_eq_getElem this]; rfl

/-- Appending onto any such slice. -/
theorem sl_append {P : Program} {k : Nat} {T E : TypeId} (hp : PlainK P k T E) (ty : TypeId) (w : World) (a : Option Addr) (cap n : Nat) (l : List Value) (h : SlAt k w a cap n l) (x : Value) (m : Nat) (ys : List Value)
    (hs : Src P k T x m ys w) (hm : 0 < m) (hb : n + m ≤ 1099511627776) :
    ∃ g' cap' w', (Builtin.append_ #[T, T] ty #[.slice a n cap, x]).run P w = .ok (.slice (some ⟨g', 0, none⟩) (n + m) cap') w' ∧
      Flat k w' g' cap' (n + m) (l ++ ys) ∧ But (inB a) w w' ∧ (inB a g' ∨ w.heap.size ≤ g') := by
  obtain ⟨i, z, hT, hi, hz, hsz, hzc, hby⟩ := hp
  have hm2 : n + m ≤ maxLen := by unfold maxLen; omega
  have hb2 : (n + m) * i.bytes ≤ 140737488355328 := Nat.le_trans (Nat.mul_le_mul hb hby) (by decide)
  rcases h with ⟨rfl, rfl, rfl, rfl⟩ | ⟨g, rfl, hf⟩
  · rw [Nat.zero_add] at hm2 hb2 ⊢
    obtain ⟨g', cap', w', h1, h2, h3, h4⟩ := nil_append k T E ty i z hT hi hz hsz hzc w x m ys hs hm hm2 hb2
    exact ⟨g', cap', w', h1, by rw [List.nil_append]; exact h2, But.of_below h3, .inr h4⟩
  · obtain ⟨g', cap', w', h1, h2, h3, h4⟩ := flat_append k T E ty i z hT hi hz hsz hzc w g cap n l hf x m ys hs hm2 hb2
    refine ⟨g', cap', w', h1, h2, h3.mono (fun j _ e => ⟨_, rfl, e.symm⟩), h4.imp (fun e => ⟨_, rfl, e.symm⟩) id⟩

theorem wpList_sl {P : Program} {k : Nat} {T E : TypeId} (hp : PlainK P k T E) (w : World) {ops : Array Oper} {rest : List Oper} {o : Oper} {a : Act} {Q : Exit → Act → World → Prop}
    (hg : o.guard = none) (s x : Operand) (hop : o.op = Op.call { callee := Callee.builtin Builtin.append, args := #[s, x], argTypes := #[T, T] })
    (b : Option Addr) (cap n : Nat) (l : List Value) (hs : a.eval s = .slice b n cap) (hF : SlAt k w b cap n l) (xv : Value) (hx : a.eval x = xv) (m : Nat) (ys : List Value)
    (hsrc : Src P k T xv m ys w) (hm : 0 < m) (hb : n + m ≤ 1099511627776)
    (hK : ∀ g' cap' w', Flat k w' g' cap' (n + m) (l ++ ys) → But (inB b) w w' → (inB b g' ∨ w.heap.size ≤ g') → wpList P ops Q rest (a.put o.dst (.slice (some ⟨g', 0, none⟩) (n + m) cap')) w') : wpList P ops Q (o :: rest) a w := by
  refine wpList_plain hg fun K hK' => ?_
  obtain ⟨g', cap', w', hrun, r1, r2, r3⟩ := sl_append hp o.type w b cap n l hF xv m ys hsrc hm hb
  unfold Oper.wp
  simp [execOp, hop, resolve, invoke, builtin, hs, hx, hrun, Result.andThen]
  exact hK' _ _ (hK g' cap' w' r1 r2 r3)

/-- One element, laid in a block of its own. -/
theorem src_new {P : Program} {T E : TypeId} (k : Nat) (w : World) (hk : P.underlying T = some (.slice E)) (b : Nat) (us : List Value) (hl : us.length = k) (hc : ∀ j u, us[j]? = some u → w.cell? ⟨b, j, none⟩ = some u) (h1 : ∀ u ∈ us, u.oneCell' = true) :
    Src P k T (.slice (some ⟨b, 0, none⟩) 1 1) 1 us w :=
  Src.ofSlice w hk _ 1 1 us (by rw [hl, Nat.one_mul]) (fun j u hu => by rw [Addr.add_lit, Nat.zero_add]; exact hc j u hu) h1

/-! Items: their bits and values. -/
abbrev It := Nat × Int
def encI (x : It) : List Value := [.float .f64 x.1, .int .i64 x.2]
def flatI (L : List It) : List Value := L.flatMap encI
theorem flatI_length (L : List It) : (flatI L).length = L.length * 2 := by
  induction L with
  | nil => rfl
  | cons x L ih => simp only [flatI, List.flatMap_cons, List.length_append, List.length_cons] at *; rw [ih]; simp [encI]; omega
theorem flatI_append (L M : List It) : flatI (L ++ M) = flatI L ++ flatI M := by simp [flatI]
theorem flatI_get : ∀ (L : List It) (i : Nat) (h : i < L.length), (flatI L)[i * 2]? = some (.float .f64 L[i].1) ∧ (flatI L)[i * 2 + 1]? = some (.int .i64 L[i].2)
  | x :: L, 0, h => ⟨rfl, rfl⟩
  | x :: L, i + 1, h => by
    have := flatI_get L i (by simpa using h)
    simp only [List.getElem_cons_succ]
    have e : flatI (x :: L) = .float .f64 x.1 :: .int .i64 x.2 :: flatI L := rfl
    rw [e, show (i + 1) * 2 = i * 2 + 1 + 1 by omega]
    exact this
theorem flatI_one (L : List It) : ∀ u ∈ flatI L, u.oneCell' = true := by
  intro u hu
  simp only [flatI, List.mem_flatMap, encI] at hu
  obtain ⟨x, _, hx⟩ := hu
  simp at hx
  rcases hx with rfl | rfl <;> rfl
theorem plainI : PlainK Try.prog 2 25 29 := by
  have h : (Try.prog.info? 29).map (fun i => (i.zero, i.size, i.bytes)) = some (some (.agg #[.float .f64 0, .int .i64 0]), 2, 16) := by kernel_rfl
  obtain ⟨i, hi, he⟩ := Option.map_eq_some_iff.1 h
  simp only [Prod.mk.injEq] at he
  exact ⟨i, _, Try.underlying25, hi, he.1, he.2.1, rfl, by rw [he.2.2]; decide⟩

/-- slices.Clone of items. -/
theorem sclone_any (a : Option Addr) (cap n : Nat) (l : List Value) (w : World) (h : SlAt 2 w a cap n l) (hn : n ≤ 1000000) :
    Calls Try.prog 106 #[.slice a n cap] w fun e w' => ∃ a' cap', e = .returned (.slice a' n cap') ∧ SlAt 2 w' a' cap' n l ∧ (∀ j, inB a' j → w.heap.size ≤ j) ∧ Below w.heap.size w w' := by
  have hq := fun w a n c => Lib.run_eql_slice_nil (P := Try.prog) w 25 29 a n c 0 0 Try.underlying25
  rcases h with ⟨rfl, rfl, rfl, rfl⟩ | ⟨g, rfl, hf⟩
  · go_enter Try.func106, Try.ntmps106
    go_wp2
    go_ret
    exact ⟨none, 0, rfl, SlAt.nil _ _, (fun j e => by obtain ⟨x, hx, _⟩ := e; cases hx), Below.refl _ _⟩
  · have hF := hidq hf
    have hlt := hf.lt
    go_enter Try.func106, Try.ntmps106
    clear hf
    go_wp2_with (at_builtin; refine wpList_flat plainI _ rfl (.tmp 5) (.tmp 6) rfl w.heap.size 0 0 [] rfl (Flat.new w [] 29 2 0 rfl (Nat.zero_le _) (fun _ h => (by cases h))) _ rfl n l ((hF.out.but (S := fun _ => False) ((But.refl _ _).alloc _) id).src Try.underlying25) (by omega) ?_; intro g2 cap2 w2 hF2 hb2 hg2)
    go_ret
    first | rw [Nat.zero_add, List.nil_append] at hF2 | rw [List.nil_append] at hF2 | skip
    refine ⟨some ⟨g2, 0, none⟩, cap2, rfl, .inr ⟨g2, rfl, hF2⟩, ?_, ?_⟩
    · rintro j ⟨x, hx, rfl⟩
      cases hx
      simp at hg2
      show w.heap.size ≤ g2
      omega
    · exact (((But.refl (fun k => k = w.heap.size) w).alloc _).trans hb2).below (Nat.le_refl _) (fun k e => by omega)
end Go.Proofs.Ythhechgjablklaa
