/-
  Layer 9's law of operations one by one: the call returns true.
-/
import Derived.Test.YtclcmabohpoaiaaItem4All
import Derived.Test.YtclcmabohpoaiaaLive8All
import Derived.Test.YtclcmabohpoaiaaFresh5All
import Derived.Test.YtclcmabohpoaiaaBoxS
namespace Go.Proofs.Ytclcmabohpoaiaa
open Go.RowKit Go.Sort

theorem isV_ne {x y : KI} (h : x ≠ y) : isV x.b x.v (ni y.b) y.v = -1 := if_neg (fun e => h (KI.ext' (by have := e.1; unfold ni at this; omega) e.2))
/-- The first place of an item. -/
theorem first_ix {z : KI} : ∀ (T : List KI) (k : Nat), z ∈ T.take k → ∃ ix, ix < k ∧ ix < T.length ∧ T[ix]? = some z ∧ (∀ j, j < ix → T[j]? ≠ some z) ∧ T.erase z = T.take ix ++ T.drop (ix + 1)
  | [], k, h => by simp at h
  | x :: T, 0, h => by simp at h
  | x :: T, k + 1, h => by
    by_cases e : x = z
    · subst e
      exact ⟨0, by omega, by simp, rfl, fun j hj => by omega, by simp⟩
    · rw [List.take_succ_cons] at h
      have h2 : z ∈ T.take k := by
        rcases List.mem_cons.1 h with h | h
        · exact absurd h.symm e
        · exact h
      obtain ⟨ix, h3, h4, h5, h6, h7⟩ := first_ix T k h2
      refine ⟨ix + 1, by omega, by simp; omega, by simpa using h5, fun j hj => ?_, ?_⟩
      · match j with
        | 0 => simpa using e
        | j + 1 => simpa using h6 j (by omega)
      · rw [List.erase_cons_tail (by simpa using e), h7]; simp

theorem own2_k (kx x : Int) : (ownK 2 kx = 3 ∨ ownK 2 kx = 4) ∧ ownV 2 kx x = x := by
  have h : ownK 2 kx = 3 + into kx 2 := rfl
  have hr := into_rng (d := kx) (n := 2) (by decide)
  have hv : ownV 2 kx x = x := by unfold ownV; rw [if_neg (by omega)]
  exact ⟨by omega, hv⟩

/-- A part of a slice of items, to be appended. -/
theorem part_lo {w : World} {g cap n ix : Nat} {T : List KI} (h : Flat 2 w g cap n (flatR T)) (c : Nat) (hi : ix ≤ T.length) : Src Try.prog 2 52 (.slice (some ⟨g, 0, none⟩) ix c) ix (flatR (T.take ix)) w := by
  have hT : flatR T = flatR (T.take ix) ++ flatR (T.drop ix) := by rw [← flatR_append, List.take_append_drop]
  refine Src.ofSlice w Try.underlying52 _ ix c _ (by rw [flatR_length, List.length_take]; congr 1; omega) (fun j u hu => ?_) (flatR_one _)
  rw [Addr.add_lit, Nat.zero_add]
  refine h.cell j u ?_
  rw [hT, List.getElem?_append_left (List.getElem?_eq_some_iff.1 hu).1]
  exact hu
theorem part_hi {w : World} {g cap n jx o : Nat} {T : List KI} (h : Flat 2 w g cap n (flatR T)) (c : Nat) (hn : T.length = n) (hi : jx ≤ n) (ho : o = jx * 2 ∨ jx = n) : Src Try.prog 2 52 (.slice (some ⟨g, o, none⟩) (n - jx) c) (n - jx) (flatR (T.drop jx)) w := by
  have hT : flatR T = flatR (T.take jx) ++ flatR (T.drop jx) := by rw [← flatR_append, List.take_append_drop]
  have hl : (flatR (T.take jx)).length = jx * 2 := by rw [flatR_length, List.length_take]; congr 1; omega
  refine Src.ofSlice w Try.underlying52 _ (n - jx) c _ (by rw [flatR_length, List.length_drop, hn]) (fun j u hu => ?_) (flatR_one _)
  have hj := (List.getElem?_eq_some_iff.1 hu).1
  rw [flatR_length, List.length_drop, hn] at hj
  rw [Addr.add_lit]
  have ho2 : o = jx * 2 := by rcases ho with e | e <;> omega
  subst ho2
  refine h.cell _ u ?_
  rw [hT, List.getElem?_append_right (by omega), hl, Nat.add_sub_cancel_left]
  exact hu

/-- One operation alone: what it comes to. -/
theorem kf_way {k h t : Nat} {M : Mem} {T : List KI} {kk : Int} {p : Nat} (x d0 d1 : Int) (hk : 1 ≤ k ∧ k ≤ 16) (hQ : QI k M h t T) (ht : t ≤ 29) (hkk : kk = 3 ∨ kk = 4) (hp : p < 18446744073709551616) :
    ∃ M' A T' h' t', alone (kStep k) 100 M (Fr.of kk p x d0 d1) = (M', A, true) ∧ QI k M' h' t' T' ∧ t' ≤ t + 1 ∧ T'.length ≤ T.length + 1 ∧
      ((kk = 3 ∧ A = ⟨true, cbits p, x, 0⟩ ∧ T' = T ++ [mkKI p x]) ∨ (kk = 4 ∧ A = Ans.zero ∧ T = [] ∧ T' = []) ∨ (kk = 4 ∧ ∃ z : KI, A = ⟨true, z.b, z.v, 0⟩ ∧ z ∈ T.take k ∧ T' = T.erase z)) := by
  have hfit : t + 1 < 998 / k := by
    have : 62 ≤ 998 / k := (Nat.le_div_iff_mul_le (by omega)).2 (by omega)
    omega
  rcases hkk with rfl | rfl
  · obtain ⟨M', t', h1, h2, h3⟩ := enq_ok p x d0 d1 100 hk hp hQ (by omega) hfit
    exact ⟨M', _, _, h, t', h1, h2, h3, by simp, .inl ⟨rfl, rfl, rfl⟩⟩
  · rcases deq_alone p x d0 d1 100 hk hQ (by omega) hfit with ⟨rfl, M', h', t', h1, h2, h3⟩ | ⟨z, M', h', h1, h2, h3⟩
    · exact ⟨M', _, _, h', t', h1, h2, h3, by simp, .inr (.inl ⟨rfl, rfl, rfl, rfl⟩)⟩
    · exact ⟨M', _, _, h', t, h1, h3, by omega, by have := List.length_erase_le (a := z) (l := T); omega, .inr (.inr ⟨rfl, z, rfl, h2, rfl⟩)⟩

/-- Behind so many operations, one by one: what is there. -/
def KA (w : World) (sb mb k i gr cr : Nat) (T : List KI) (wr : World) : Prop :=
  ∃ (O : Nat → Prop) (M : Mem) (h t : Nat), St w wr sb [.int .i64 (k : Int)] mb O M ∧ QI k M h t T ∧ t ≤ i ∧ M.clock ≤ 100 * i ∧ T.length ≤ i ∧ w.heap.size ≤ gr ∧ ¬ O gr ∧ gr ≠ sb ∧ Flat 2 wr gr cr T.length (flatR T)

set_option linter.unusedVariables false in
def kal12R (lo g off n cp i : Nat) (kd p x d0 d1 kk y q : Int) : List (Value → World → Prop) :=
  [fun v _ => v = .slice (some ⟨g, off, none⟩) n cp,
   fun v _ => v = .int .i64 (i : Int),
   fun v _ => v = .pointer (some ⟨g, off + i * 5, none⟩),
   fun v _ => v = .agg #[.int .i64 kd, .int .u64 p, .int .i64 x, .int .i64 d0, .int .i64 d1],
   fun v _ => v = .agg #[.int .i64 kk, .float .f64 (nf p), .int .i64 y, .int .i64 d0, .int .i64 d1],
   fun v _ => v = .slice (some ⟨g, off, none⟩) n cp,
   fun v _ => v = .int .i64 (i : Int),
   fun v _ => v = .pointer (some ⟨g, off + i * 5, none⟩),
   fun v _ => v = .pointer (some ⟨g, off + i * 5 + 1, none⟩),
   fun v _ => v = .agg #[.int .u64 p, .int .i64 x],
   fun v _ => v = .agg #[.int .u64 q, .int .i64 x],
   fun v w => ∃ b, v = .pointer (some ⟨b, 0, none⟩) ∧ BoxAt w b [.int .i64 0, .float .f64 0, .int .i64 0, .int .i64 0, .int .i64 0] ∧ lo ≤ b,
   fun v w => ∃ b, v = .pointer (some ⟨b, 0, none⟩) ∧ BoxAt w b [.int .u64 0, .int .i64 0] ∧ lo ≤ b]
theorem kal12R_kept (lo g off n cp i : Nat) (kd p x d0 d1 kk y q : Int) : Reg.AllKept Reg.Keeps (kal12R lo g off n cp i kd p x d0 d1 kk y q) :=
  ⟨(fun _ _ _ _ h => h), (fun _ _ _ _ h => h), (fun _ _ _ _ h => h), (fun _ _ _ _ h => h), (fun _ _ _ _ h => h), (fun _ _ _ _ h => h), (fun _ _ _ _ h => h), (fun _ _ _ _ h => h), (fun _ _ _ _ h => h), (fun _ _ _ _ h => h), (fun _ _ _ _ h => h), (fun v w w' hk h => by obtain ⟨g, h1, h2, h3⟩ := h; exact ⟨g, h1, h2.below hk, h3⟩), (fun v w w' hk h => by obtain ⟨g, h1, h2, h3⟩ := h; exact ⟨g, h1, h2.below hk, h3⟩), trivial⟩

set_option linter.unusedVariables false in
def kal25lo (ab gr len cr j ix zb : Nat) (zv yq yv : Int) : List (Value → World → Prop) :=
  [fun v _ => v = .int .i64 (-1),
   fun v _ => v = .bool true,
   fun v _ => v = .bool true,
   fun v _ => v = .pointer (some ⟨ab, 1, none⟩),
   fun v _ => v = .agg #[.float .f64 zb, .int .i64 zv],
   fun v _ => v = .slice (some ⟨gr, 0, none⟩) len cr,
   fun v _ => v = .int .i64 (j : Int),
   fun v _ => v = .pointer (some ⟨gr, j * 2, none⟩),
   fun v _ => v = .agg #[.int .u64 yq, .int .i64 yv],
   fun v _ => v = .int .i64 (-1),
   fun v _ => v = .bool false,
   fun v _ => v = .bool false]
theorem kal25lo_kept (ab gr len cr j ix zb : Nat) (zv yq yv : Int) : Reg.AllKept Reg.Keeps (kal25lo ab gr len cr j ix zb zv yq yv) :=
  ⟨(fun _ _ _ _ h => h), (fun _ _ _ _ h => h), (fun _ _ _ _ h => h), (fun _ _ _ _ h => h), (fun _ _ _ _ h => h), (fun _ _ _ _ h => h), (fun _ _ _ _ h => h), (fun _ _ _ _ h => h), (fun _ _ _ _ h => h), (fun _ _ _ _ h => h), (fun _ _ _ _ h => h), (fun _ _ _ _ h => h), trivial⟩

set_option linter.unusedVariables false in
def kal25at (ab gr len cr j ix zb : Nat) (zv yq yv : Int) : List (Value → World → Prop) :=
  [fun v _ => v = .int .i64 (-1),
   fun v _ => v = .bool true,
   fun v _ => v = .bool true,
   fun v _ => v = .pointer (some ⟨ab, 1, none⟩),
   fun v _ => v = .agg #[.float .f64 zb, .int .i64 zv],
   fun v _ => v = .slice (some ⟨gr, 0, none⟩) len cr,
   fun v _ => v = .int .i64 (j : Int),
   fun v _ => v = .pointer (some ⟨gr, j * 2, none⟩),
   fun v _ => v = .agg #[.int .u64 yq, .int .i64 yv],
   fun v _ => v = .int .i64 (0),
   fun v _ => v = .bool true,
   fun v _ => v = .bool true]
theorem kal25at_kept (ab gr len cr j ix zb : Nat) (zv yq yv : Int) : Reg.AllKept Reg.Keeps (kal25at ab gr len cr j ix zb zv yq yv) :=
  ⟨(fun _ _ _ _ h => h), (fun _ _ _ _ h => h), (fun _ _ _ _ h => h), (fun _ _ _ _ h => h), (fun _ _ _ _ h => h), (fun _ _ _ _ h => h), (fun _ _ _ _ h => h), (fun _ _ _ _ h => h), (fun _ _ _ _ h => h), (fun _ _ _ _ h => h), (fun _ _ _ _ h => h), (fun _ _ _ _ h => h), trivial⟩

set_option linter.unusedVariables false in
def kal25hi (ab gr len cr j ix zb : Nat) (zv yq yv : Int) : List (Value → World → Prop) :=
  [fun v _ => v = .int .i64 (ix : Int),
   fun v _ => v = .bool false,
   fun v _ => v = .bool false,
   fun _ _ => True,
   fun _ _ => True,
   fun _ _ => True,
   fun _ _ => True,
   fun _ _ => True,
   fun _ _ => True,
   fun _ _ => True,
   fun _ _ => True,
   fun v _ => v = .bool false]
theorem kal25hi_kept (ab gr len cr j ix zb : Nat) (zv yq yv : Int) : Reg.AllKept Reg.Keeps (kal25hi ab gr len cr j ix zb zv yq yv) :=
  ⟨(fun _ _ _ _ h => h), (fun _ _ _ _ h => h), (fun _ _ _ _ h => h), (fun _ _ _ _ h => h), (fun _ _ _ _ h => h), (fun _ _ _ _ h => h), (fun _ _ _ _ h => h), (fun _ _ _ _ h => h), (fun _ _ _ _ h => h), (fun _ _ _ _ h => h), (fun _ _ _ _ h => h), (fun _ _ _ _ h => h), trivial⟩

set_option linter.unusedVariables false in
def kal30R (lo3 gr len cr ix jx o8 : Nat) (T : List KI) : List (Value → World → Prop) :=
  [fun v w => ∃ g, v = .slice (some ⟨g, 0, none⟩) 0 0 ∧ Flat 2 w g 0 0 [] ∧ lo3 ≤ g,
   fun v _ => v = .slice (some ⟨gr, 0, none⟩) len cr,
   fun v _ => v = .int .i64 (ix : Int),
   fun v _ => v = .slice (some ⟨gr, 0, none⟩) ix cr,
   fun v w => ∃ g c, v = .slice (some ⟨g, 0, none⟩) ix c ∧ Flat 2 w g c ix (flatR (T.take ix)) ∧ lo3 ≤ g,
   fun v _ => v = .slice (some ⟨gr, 0, none⟩) len cr,
   fun v _ => v = .int .i64 (ix : Int),
   fun v _ => v = .int .i64 (jx : Int),
   fun v _ => v = .slice (some ⟨gr, o8, none⟩) (len - jx) (cr - jx)]
theorem kal30R_kept (lo3 gr len cr ix jx o8 : Nat) (T : List KI) : Reg.AllKept Reg.Keeps (kal30R lo3 gr len cr ix jx o8 T) :=
  ⟨(fun v w w' hk h => by obtain ⟨g, h1, h2, h3⟩ := h; exact ⟨g, h1, h2.but (S := fun _ => False) (But.of_below hk) id, h3⟩), (fun _ _ _ _ h => h), (fun _ _ _ _ h => h), (fun _ _ _ _ h => h), (fun v w w' hk h => by obtain ⟨g, c, h1, h2, h3⟩ := h; exact ⟨g, c, h1, h2.but (S := fun _ => False) (But.of_below hk) id, h3⟩), (fun _ _ _ _ h => h), (fun _ _ _ _ h => h), (fun _ _ _ _ h => h), (fun _ _ _ _ h => h), trivial⟩

set_option maxRecDepth 20000 in
set_option maxHeartbeats 16000000 in
theorem kfifoAlone_any (a0 : Int) (a1 : Option Addr) (n cp : Nat) (w : World) (hOps : Ops w a1 n) :
    Calls Try.prog 4 #[.int .i64 a0, .slice a1 n cp] w fun e w' => e = .returned (.bool true) ∧ Below w.heap.size w w' := by
  have hA := awake9_any w
  have hsf := run_store_flt (P := Try.prog)
  have hr := into_rng (d := a0) (n := 16) (by decide)
  obtain ⟨j0, hj⟩ : ∃ j : Nat, into a0 16 = (j : Int) := ⟨(into a0 16).toNat, by omega⟩
  obtain ⟨k, hkd⟩ : ∃ k : Nat, (1 : Int) + (j0 : Int) = (k : Int) := ⟨1 + j0, by omega⟩
  have hIn := fun w => rinto_any a0 16 w (by decide)
  rw [hj] at hIn hr
  have hk : 1 ≤ k ∧ k ≤ 16 := by omega
  have hleg : legal 2 (k : Int) = 0 := legal_ok (by decide) (by omega) (by omega)
  have hN : ∀ W, Calls Try.prog 18 #[.int .i64 (k : Int)] W fun e w' => e = .returned (.tuple #[.agg #[.int .i64 (k : Int)], .int .i64 0]) ∧ Below W.heap.size W w' := fun W => by
    have := knew_any (k : Int) W
    rw [hleg, show knewV (k : Int) = .agg #[.int .i64 (k : Int)] from if_pos hleg] at this
    exact this
  have hjb : (j0 : Int) ≤ 15 := by omega
  have HOPS := hidq (fun W (hW : Below w.heap.size w W) => hOps.below hW)
  clear hj hr hleg hOps
  go_enter Try.func4, Try.ntmps4
  go_wp2_with fail
  refine hA.mono ?_
  rintro e w1 ⟨rfl, hb1⟩
  clear hA
  go_wp2_with fail
  refine (hIn _).mono ?_
  rintro e w2 ⟨rfl, hw2⟩
  replace hw2 := hw2.symm
  subst hw2
  clear hIn
  go_wp2_with fail
  refine (hN _).mono ?_
  rintro e w3 ⟨rfl, hb3⟩
  clear hN
  obtain ⟨sb, hsb⟩ : ∃ sb, w3.heap.size = sb := ⟨_, rfl⟩
  obtain ⟨W2, hW2', hbW, hsW, hB2⟩ := one_new w3 [.int .i64 (k : Int)] 57
  have hW2 : w3.alloc (.cells #[.int .i64 (k : Int)] 57) = W2 := hW2'
  rw [hsb] at hB2 hsW
  have H2 := hidq (And.intro hB2 (And.intro ((hb1.trans (hb3.mono hb1.size)).trans (hbW.mono (by have := hb1.size; have := hb3.size; omega))) (And.intro (Nat.le_trans hb1.size hb3.size) hsW)))
  clear hB2 hbW hsW hb1 hb3 hW2'
  go_wp2_with fail
  refine (new5_any _).mono ?_
  rintro e w4 ⟨rfl, hM4, hb4⟩
  obtain ⟨mb, hmb⟩ : ∃ mb, W2.heap.size = mb := ⟨_, rfl⟩
  rw [hmb] at hM4 ⊢
  obtain ⟨hB2, hbw, hs2, hsW⟩ := H2.out
  have hS4 : St w w4 sb [.int .i64 (k : Int)] mb (fun k => k = mb) Mem.empty := ⟨hM4, fun k e => by omega, hB2.below hb4, hbw.trans (hb4.mono hbw.size)⟩
  have HT0 := hidq (show KA w sb mb k 0 w4.heap.size 0 [] (w4.alloc (.cells #[] 45)) from by
    refine ⟨_, _, 0, 0, hS4.alloc _, QI.empty k, Nat.le_refl _, Nat.le_refl _, Nat.le_refl _, hS4.low.size, fun e => ?_, ?_, Flat.new w4 [] 45 2 0 rfl (Nat.zero_le _) (fun _ h => (by cases h))⟩
    · have := hS4.mem.lt _ e; omega
    · have := hS4.box.lt; omega)
  have HK := hidq (And.intro hk (show (1 : Int) ≤ (k : Int) ∧ (k : Int) ≤ 16 by omega))
  clear hB2 hbw hs2 hsW hM4 hb4 H2 hmb hW2 hsb hS4 hkd hk hjb
  go_wp2_with fail
  obtain ⟨gr0, hgr0⟩ : ∃ gr, w4.heap.size = gr := ⟨_, rfl⟩
  obtain ⟨W5, hW5⟩ : ∃ W5, w4.alloc (.cells #[] 45) = W5 := ⟨_, rfl⟩
  rw [hgr0, hW5] at HT0 ⊢
  clear hgr0 hW5
  go_loopw [8, 9] (fun s8 s9 wr => ∃ (i : Nat) (T : List KI) (gr cr len : Nat), s8 = .slice (some ⟨gr, 0, none⟩) len cr ∧ s9 = .int .i64 (i : Int) ∧ i ≤ 30 ∧ Hid (len = T.length) ∧ Hid (KA w sb mb k i gr cr T wr)) (fun _ s9 _ => 30 - (intOf s9).toNat)
  case atStart => exact ⟨0, [], gr0, 0, 0, rfl, rfl, Nat.zero_le _, hidq rfl, HT0⟩
  case round =>
    clear HT0
    obtain ⟨W1, hw1⟩ : ∃ W1, W1 = wr := ⟨_, rfl⟩
    subst hw1
    obtain ⟨i, T, gr, cr, len, rfl, rfl, hi30, hlen, hT⟩ := hrel
    by_cases hlt : i < n ∧ i < 30
    · obtain ⟨hlt1, hlt2⟩ := hlt
      obtain ⟨O, M, h, t, hS, hQ, ht, hck, hTl, hgr, hOg, hgsb, hFl⟩ := hT.out
      obtain ⟨g, off, ha, hgl, kd, p, x, d0, d1, ⟨c0, c1, c2⟩, ⟨c3, c4⟩, hp0, hp1⟩ := HOPS.out _ hS.low i hlt1
      subst ha
      have hlt3 : (i : Int) < (n : Int) := by omega
      have hlt4 : (i : Int) < 30 := by omega
      have FC := hidq (fun W (hW : Below W1.heap.size W1 W) => (show W.cell? ⟨g, off + i * 5, none⟩ = some (.int .i64 kd) ∧ W.cell? ⟨g, off + i * 5 + 1, none⟩ = some (.int .u64 p) ∧ W.cell? ⟨g, off + i * 5 + 2, none⟩ = some (.int .i64 x) ∧ W.cell? ⟨g, off + i * 5 + 3, none⟩ = some (.int .i64 d0) ∧ W.cell? ⟨g, off + i * 5 + 4, none⟩ = some (.int .i64 d1) from
        ⟨(hW.cell (p := ⟨g, off + i * 5, none⟩) hgl).trans c0, (hW.cell (p := ⟨g, off + i * 5 + 1, none⟩) hgl).trans c1, (hW.cell (p := ⟨g, off + i * 5 + 2, none⟩) hgl).trans c2, (hW.cell (p := ⟨g, off + i * 5 + 3, none⟩) hgl).trans c3, (hW.cell (p := ⟨g, off + i * 5 + 4, none⟩) hgl).trans c4⟩))
      obtain ⟨hkk, hy⟩ := own2_k kd x
      have hOw0 := fun W => own6_any 2 kd p x d0 d1 W
      have hTo0 := fun W => told_any p x W hp0 hp1
      have hnf := nf_lt hp1
      have hqe : ni (cbits (nf p)) = ni (mkKI (nf p) x).b := by rw [mkKI_b hnf]
      rw [hy] at hOw0
      generalize ownK 2 kd = kk at *
      obtain ⟨q, hq⟩ : ∃ q, ni (cbits (nf p)) = q := ⟨_, rfl⟩
      rw [hq] at hTo0 hqe
      have hOw := hidq hOw0
      have hTo := hidq hTo0
      obtain ⟨lo, hlo⟩ : ∃ lo, W1.heap.size = lo := ⟨_, rfl⟩
      have HLO := hidq hlo
      have HB := hidq (And.intro hlt1 hlt2)
      have HQ := hidq (And.intro hq (And.intro hqe hnf))
      have HGL := hidq hgl
      have HKK := hidq hkk
      clear hS hQ ht hck hTl hgr hOg hgsb hFl c0 c1 c2 c3 c4 hp0 hp1 hkk hy hOw0 hTo0 hq hqe hnf hgl hlo
      go_wp2_with fail
      have hrefl : ∀ w : World, Reg.Keeps w w := Reg.Keeps.refl
      refine Reg.wp_region_props_tail 13 (Reg.ofList (kal12R lo g off n cp i kd p x d0 d1 kk x q)) Reg.Keeps (fun _ w => Reg.Keeps W1 w) (by kernel_rfl) (by kernel_rfl) (by kernel_rfl) (Reg.AllKept.at _ (kal12R_kept lo g off n cp i kd p x d0 d1 kk x q)) hrefl (Reg.Keeps.drewN (Reg.Keeps.refl _) 1) ⟨?_, ?_, ?_, ?_, ?_, ?_, ?_, ?_, ?_, ?_, ?_, ?_, ?_, trivial⟩ ?_
      · refine Reg.StepAt.plain (i := 0) rfl ?_
        intro L ev w hI hk hp hA
        have e1 : ev (.tmp 1) = .slice (some ⟨g, off, none⟩) n cp := hA.oldNone 1 (by kernel_rfl)
        have hcc := hA.const
        clear hA hp
        refine Reg.out_value (v := .slice (some ⟨g, off, none⟩) n cp) ?_ ⟨rfl, hrefl _, hI⟩
        go_simp
      · refine Reg.StepAt.plain (i := 1) rfl ?_
        intro L ev w hI hk hp hA
        have e9 : ev (.tmp 9) = .int .i64 (i : Int) := hA.oldNone 9 (by kernel_rfl)
        have hcc := hA.const
        clear hA hp
        refine Reg.out_value (v := .int .i64 (i : Int)) ?_ ⟨rfl, hrefl _, hI⟩
        go_simp
      · refine Reg.StepAt.plain (i := 2) rfl ?_
        intro L ev w hI hk hp hA
        have e40 : ev (.tmp 40) = .slice (some ⟨g, off, none⟩) n cp := hA.val 0 _ 40 rfl (hp ⟨0, .data⟩ (by simp) rfl) rfl
        have e41 : ev (.tmp 41) = .int .i64 (i : Int) := hA.val 1 _ 41 rfl (hp ⟨1, .data⟩ (by simp) rfl) rfl
        have hcc := hA.const
        clear hA hp
        refine Reg.out_value (v := .pointer (some ⟨g, off + i * 5, none⟩)) ?_ ⟨rfl, hrefl _, hI⟩
        go_simp
      · refine Reg.StepAt.plain (i := 3) rfl ?_
        intro L ev w hI hk hp hA
        have e42 : ev (.tmp 42) = .pointer (some ⟨g, off + i * 5, none⟩) := hA.val 2 _ 42 rfl (hp ⟨2, .data⟩ (by simp) rfl) rfl
        have hcc := hA.const
        clear hA hp
        obtain ⟨f0, f1, f2, f3, f4⟩ := FC.out w hI
        refine Reg.out_value (v := .agg #[.int .i64 kd, .int .u64 p, .int .i64 x, .int .i64 d0, .int .i64 d1]) ?_ ⟨rfl, hrefl _, hI⟩
        go_simp
      · refine Reg.StepAt.plain (i := 4) rfl ?_
        intro L ev w hI hk hp hA
        have e43 : ev (.tmp 43) = .agg #[.int .i64 kd, .int .u64 p, .int .i64 x, .int .i64 d0, .int .i64 d1] := hA.val 3 _ 43 rfl (hp ⟨3, .data⟩ (by simp) rfl) rfl
        have hcc := hA.const
        have hcf := hA.func
        clear hA hp
        refine Reg.out_call (f := 11) (args := #[.int .i64 2, .agg #[.int .i64 kd, .int .u64 p, .int .i64 x, .int .i64 d0, .int .i64 d1]]) (w0 := w) ?_ ?_
        · go_simp
        refine (hOw.out w).mono ?_
        rintro e w' ⟨rfl, hb'⟩
        exact ⟨_, rfl, rfl, hb', Reg.Keeps.trans hI hb'⟩
      · refine Reg.StepAt.plain (i := 5) rfl ?_
        intro L ev w hI hk hp hA
        have e1 : ev (.tmp 1) = .slice (some ⟨g, off, none⟩) n cp := hA.oldNone 1 (by kernel_rfl)
        have hcc := hA.const
        clear hA hp
        refine Reg.out_value (v := .slice (some ⟨g, off, none⟩) n cp) ?_ ⟨rfl, hrefl _, hI⟩
        go_simp
      · refine Reg.StepAt.plain (i := 6) rfl ?_
        intro L ev w hI hk hp hA
        have e9 : ev (.tmp 9) = .int .i64 (i : Int) := hA.oldNone 9 (by kernel_rfl)
        have hcc := hA.const
        clear hA hp
        refine Reg.out_value (v := .int .i64 (i : Int)) ?_ ⟨rfl, hrefl _, hI⟩
        go_simp
      · refine Reg.StepAt.plain (i := 7) rfl ?_
        intro L ev w hI hk hp hA
        have e45 : ev (.tmp 45) = .slice (some ⟨g, off, none⟩) n cp := hA.val 5 _ 45 rfl (hp ⟨5, .data⟩ (by simp) rfl) rfl
        have e46 : ev (.tmp 46) = .int .i64 (i : Int) := hA.val 6 _ 46 rfl (hp ⟨6, .data⟩ (by simp) rfl) rfl
        have hcc := hA.const
        clear hA hp
        refine Reg.out_value (v := .pointer (some ⟨g, off + i * 5, none⟩)) ?_ ⟨rfl, hrefl _, hI⟩
        go_simp
      · refine Reg.StepAt.plain (i := 8) rfl ?_
        intro L ev w hI hk hp hA
        have e47 : ev (.tmp 47) = .pointer (some ⟨g, off + i * 5, none⟩) := hA.val 7 _ 47 rfl (hp ⟨7, .data⟩ (by simp) rfl) rfl
        have hcc := hA.const
        clear hA hp
        refine Reg.out_value (v := .pointer (some ⟨g, off + i * 5 + 1, none⟩)) ?_ ⟨rfl, hrefl _, hI⟩
        go_simp
      · refine Reg.StepAt.plain (i := 9) rfl ?_
        intro L ev w hI hk hp hA
        have e48 : ev (.tmp 48) = .pointer (some ⟨g, off + i * 5 + 1, none⟩) := hA.val 8 _ 48 rfl (hp ⟨8, .data⟩ (by simp) rfl) rfl
        have hcc := hA.const
        clear hA hp
        obtain ⟨f0, f1, f2, f3, f4⟩ := FC.out w hI
        refine Reg.out_value (v := .agg #[.int .u64 p, .int .i64 x]) ?_ ⟨rfl, hrefl _, hI⟩
        go_simp
      · refine Reg.StepAt.plain (i := 10) rfl ?_
        intro L ev w hI hk hp hA
        have e49 : ev (.tmp 49) = .agg #[.int .u64 p, .int .i64 x] := hA.val 9 _ 49 rfl (hp ⟨9, .data⟩ (by simp) rfl) rfl
        have hcc := hA.const
        have hcf := hA.func
        clear hA hp
        refine Reg.out_call (f := 12) (args := #[.agg #[.int .u64 p, .int .i64 x]]) (w0 := w) ?_ ?_
        · go_simp
        refine (hTo.out w).mono ?_
        rintro e w' ⟨rfl, hb'⟩
        exact ⟨_, rfl, rfl, hb', Reg.Keeps.trans hI hb'⟩
      · refine Reg.StepAt.plain (i := 11) rfl ?_
        intro L ev w hI hk hp hA
        have hcc := hA.const
        clear hA hp
        refine Reg.out_new (v := .pointer (some ⟨w.heap.size, 0, none⟩)) (w' := w.alloc (.cells #[.int .i64 0, .float .f64 0, .int .i64 0, .int .i64 0, .int .i64 0] 38)) ?_ ⟨⟨w.heap.size, rfl, BoxAt.new w [.int .i64 0, .float .f64 0, .int .i64 0, .int .i64 0, .int .i64 0] 38, by have h1 : W1.heap.size ≤ w.heap.size := hI.size; have h2 := HLO.out; omega⟩, (Reg.Keeps.refl _).alloc _, Reg.Keeps.alloc hI _⟩
        go_simp
      · refine Reg.StepAt.plain (i := 12) rfl ?_
        intro L ev w hI hk hp hA
        have hcc := hA.const
        clear hA hp
        refine Reg.out_new (v := .pointer (some ⟨w.heap.size, 0, none⟩)) (w' := w.alloc (.cells #[.int .u64 0, .int .i64 0] 45)) ?_ ⟨⟨w.heap.size, rfl, BoxAt.new w [.int .u64 0, .int .i64 0] 45, by have h1 : W1.heap.size ≤ w.heap.size := hI.size; have h2 := HLO.out; omega⟩, (Reg.Keeps.refl _).alloc _, Reg.Keeps.alloc hI _⟩
        go_simp
      intro act wz hI hF
      have g40 : act.eval (.tmp 40) = .slice (some ⟨g, off, none⟩) n cp := hF.val 0 _ 40 rfl (by kernel_rfl) rfl
      have g41 : act.eval (.tmp 41) = .int .i64 (i : Int) := hF.val 1 _ 41 rfl (by kernel_rfl) rfl
      have g42 : act.eval (.tmp 42) = .pointer (some ⟨g, off + i * 5, none⟩) := hF.val 2 _ 42 rfl (by kernel_rfl) rfl
      have g43 : act.eval (.tmp 43) = .agg #[.int .i64 kd, .int .u64 p, .int .i64 x, .int .i64 d0, .int .i64 d1] := hF.val 3 _ 43 rfl (by kernel_rfl) rfl
      have g44 : act.eval (.tmp 44) = .agg #[.int .i64 kk, .float .f64 (nf p), .int .i64 x, .int .i64 d0, .int .i64 d1] := hF.val 4 _ 44 rfl (by kernel_rfl) rfl
      have g45 : act.eval (.tmp 45) = .slice (some ⟨g, off, none⟩) n cp := hF.val 5 _ 45 rfl (by kernel_rfl) rfl
      have g46 : act.eval (.tmp 46) = .int .i64 (i : Int) := hF.val 6 _ 46 rfl (by kernel_rfl) rfl
      have g47 : act.eval (.tmp 47) = .pointer (some ⟨g, off + i * 5, none⟩) := hF.val 7 _ 47 rfl (by kernel_rfl) rfl
      have g48 : act.eval (.tmp 48) = .pointer (some ⟨g, off + i * 5 + 1, none⟩) := hF.val 8 _ 48 rfl (by kernel_rfl) rfl
      have g49 : act.eval (.tmp 49) = .agg #[.int .u64 p, .int .i64 x] := hF.val 9 _ 49 rfl (by kernel_rfl) rfl
      have g50 : act.eval (.tmp 50) = .agg #[.int .u64 q, .int .i64 x] := hF.val 10 _ 50 rfl (by kernel_rfl) rfl
      have g10 : (fun v w => ∃ b, v = .pointer (some ⟨b, 0, none⟩) ∧ BoxAt w b [.int .i64 0, .float .f64 0, .int .i64 0, .int .i64 0, .int .i64 0] ∧ lo ≤ b) (act.eval (.tmp 10)) wz := hF.val 11 _ 10 rfl (by kernel_rfl) rfl
      have g11 : (fun v w => ∃ b, v = .pointer (some ⟨b, 0, none⟩) ∧ BoxAt w b [.int .u64 0, .int .i64 0] ∧ lo ≤ b) (act.eval (.tmp 11)) wz := hF.val 12 _ 11 rfl (by kernel_rfl) rfl
      have hact := hF.actHead [40, 41, 42, 43, 44, 45, 46, 47, 48, 49, 50, 10, 11] (by kernel_rfl)
      clear hF
      simp only [List.foldl_cons, List.foldl_nil] at hact
      rw [g40, g41, g42, g43, g44, g45, g46, g47, g48, g49, g50] at hact
      clear g40 g41 g42 g43 g44 g45 g46 g47 g48 g49 g50
      generalize act.eval (.tmp 10) = u10 at hact g10
      generalize act.eval (.tmp 11) = u11 at hact g11
      simp only [List.setIfInBounds_toArray, List.set_cons_succ, List.set_cons_zero] at hact
      subst hact
      simp only [List.drop_succ_cons, List.drop_zero]
      obtain ⟨ob, rfl, hOB, hob⟩ := g10
      obtain ⟨xb, rfl, hXB, hxb⟩ := g11
      have hIz : Below W1.heap.size W1 wz := hI
      have hlo := HLO.out
      have hne : ob ≠ xb := fun e => by
        have q1 := (hOB.get 0 _ rfl).1
        have q2 := (hXB.get 0 _ rfl).1
        rw [e, q2] at q1
        cases q1
      clear hI
      refine wpList_store_box wz rfl 38 (.tmp 10) (.tmp 44) rfl rfl ob [.int .i64 kk, .float .f64 (nf p), .int .i64 x, .int .i64 d0, .int .i64 d1] rfl rfl (by kernel_rfl) rfl hOB rfl ?_
      intro W6 hOB6 hb6
      have hXB6 := hXB.but hb6 (fun e => hne e.symm)
      have hI6 := hIz.trans (hb6.below hIz.size (fun j e => by omega))
      clear hb6 hOB hXB hIz
      refine wpList_store_box W6 rfl 45 (.tmp 11) (.tmp 50) rfl rfl xb [.int .u64 q, .int .i64 x] rfl rfl (by kernel_rfl) rfl hXB6 rfl ?_
      intro W7 hXB7 hb7
      have hOB7 := hOB6.but hb7 hne
      have hI7 := hI6.trans (hb7.below hI6.size (fun j e => by omega))
      clear hb7 hOB6 hXB6 hI6 hne
      obtain ⟨O, M, h, t, hS, hQ, ht, hck, hTl, hgr, hOg, hgsb, hFl⟩ := hT.out
      obtain ⟨hlt1, hlt2⟩ := HB.out
      obtain ⟨hq, hqe, hnf⟩ := HQ.out
      have hS7 := hS.below hI7
      rw [← hlen.out] at hFl
      have hOo : ¬ O ob := fun e => by have := hS.mem.lt _ e; omega
      have hOx : ¬ O xb := fun e => by have := hS.mem.lt _ e; omega
      have hFl7 : Flat 2 W7 gr cr len (flatR T) := hFl.but (S := fun _ => False) (But.of_below hI7) id
      have hgl7 : gr < W7.heap.size := hFl7.lt
      have hal := aloneK_any (k : Int) (kstep_is (k : Int) HK.out.2) (kFine (k : Int) HK.out.2) mb O M kk (nf p) x d0 d1 100 W7 hS7.mem (kGood.start HK.out.2.1 kk (nf p) x d0 d1 HKK.out hnf hQ.km) (by decide) (by omega)
      have hcl := alone_clock (kFine (k : Int) HK.out.2) 100 M (Fr.of kk (nf p) x d0 d1)
      obtain ⟨M', A, T', h', t', ha, hQ', ht', hTl', hway⟩ := kf_way x d0 d1 HK.out.1 hQ (by omega) HKK.out hnf
      rw [show (100 : Int).toNat = 100 from rfl, ha] at hal
      rw [ha] at hcl
      have hcl' : M'.clock ≤ M.clock + 100 := hcl
      have HAl := hidq hal
      have hr0 := (hS7.box.get 0 _ rfl).1
      have hsl := hS7.box.lt
      have o0 := (hOB7.get 0 _ rfl).1
      have o1 := (hOB7.get 1 _ rfl).1
      have o2 := (hOB7.get 2 _ rfl).1
      have o3 := (hOB7.get 3 _ rfl).1
      have o4 := (hOB7.get 4 _ rfl).1
      have hol := hOB7.lt
      have HX := hidq (fun w8 O8 (hM8 : MemAt w8 mb O8 M') (hG8 : Grown O W7 w8 O8) (hB8 : But O W7 w8) => (show BoxAt w8 ob [.int .i64 kk, .float .f64 (nf p), .int .i64 x, .int .i64 d0, .int .i64 d1] ∧ BoxAt w8 xb [.int .u64 q, .int .i64 x] ∧ Flat 2 w8 gr cr len (flatR T) ∧
          (∀ W T2 g2 c2, But (fun j => j = gr) w8 W → T2 = T' → (g2 = gr ∨ w8.heap.size ≤ g2) → Flat 2 W g2 c2 T2.length (flatR T2) → KA w sb mb k (i + 1) g2 c2 T2 W) from by
        have hS8 := hS7.call hM8 hG8 hB8
        have hO8 : ¬ O8 gr := fun e => by
          rcases hG8 _ e with z | z
          · exact hOg z
          · omega
        refine ⟨hOB7.but hB8 hOo, hXB7.but hB8 hOx, hFl7.but hB8 hOg, fun W T2 g2 c2 hW e hg hF => ?_⟩
        subst e
        refine ⟨O8, M', h', t', hS8.but hW (fun q hq e => hO8 (e ▸ hq)) (fun e => hgsb e.symm) (fun q e => by omega), hQ', by omega, by omega, by omega, ?_, ?_, ?_, hF⟩
        · rcases hg with rfl | hg
          · exact hgr
          · have := hS8.low.size; omega
        · rcases hg with rfl | hg
          · exact hO8
          · intro e; have := hM8.lt _ e; omega
        · rcases hg with rfl | hg
          · exact hgsb
          · have := hS8.box.lt; omega))
      have HW := hidq hway
      have HTL := hidq (show len ≤ 29 from by have := hlen.out; omega)
      have HLT := hidq (And.intro hlt1 hlt2)
      have HNF := hidq (And.intro hq (And.intro hqe hnf))
      clear hS hQ ht hck hTl hgr hOg hgsb hFl hS7 hOB7 hXB7 hI7 hFl7 hal hcl hcl' ha hQ' ht' hTl' hway hlt1 hlt2 hq hqe hnf hOo hOx hgl7 hob hxb hlo HLO HB HQ HKK HGL FC hOw hTo hT HOPS
      go_wp2_with fail
      refine HAl.out.mono ?_
      rintro e w8 ⟨rfl, O8, hM8, hG8, hB8⟩
      obtain ⟨hOB8, hXB8, hF8, hold⟩ := HX.out w8 O8 hM8 hG8 hB8
      clear HX HAl hM8 hG8 hB8 hr0 hsl o0 o1 o2 o3 o4 hol
      have o0 := (hOB8.get 0 _ rfl).1
      have hol := hOB8.lt
      have x0 := (hXB8.get 0 _ rfl).1
      have x1 := (hXB8.get 1 _ rfl).1
      have hxl := hXB8.lt
      have HXB := hidq hXB8
      have HF := hidq hF8
      have HO := hidq hold
      clear hOB8 hXB8 hF8 hold
      rcases HW.out with ⟨rfl, rfl, hT'⟩ | ⟨rfl, rfl, hTn, hT'⟩ | ⟨rfl, z, rfl, hz, hT'⟩
      · have hIs := hidq (fun W => (show Calls Try.prog 14 #[.agg #[.float .f64 (cbits (nf p)), .int .i64 x], .agg #[.int .u64 q, .int .i64 x]] W fun e w' => e = .returned (.int .i64 0) ∧ Below W.heap.size W w' from by
          have := is_any (cbits (nf p)) x q x W
          rw [show isV (cbits (nf p)) x q x = 0 from if_pos ⟨HNF.out.1, rfl⟩] at this
          exact this))
        have HT' := hidq hT'
        clear hT' HW
        go_wp2_with fail
        refine (hIs.out _).mono ?_
        rintro e w9 ⟨rfl, hb9⟩
        obtain ⟨W8, hW8⟩ : ∃ W8, w8.alloc (.cells #[.bool true, .float .f64 (cbits (nf p)), .int .i64 x, .int .i64 0] 48) = W8 := ⟨_, rfl⟩
        have hb89 : Below w8.heap.size w8 w9 := by
          rw [hW8] at hb9
          have hb8 : Below w8.heap.size w8 W8 := by rw [← hW8]; exact (Below.refl _ _).alloc (Nat.le_refl _) _
          exact hb8.trans (hb9.mono hb8.size)
        have hX9 := HXB.out.below hb89
        have hF9 := HF.out.but (S := fun _ => False) (But.of_below hb89) id
        have y0 := (hX9.get 0 _ rfl).1
        have y1 := (hX9.get 1 _ rfl).1
        have hyl := hX9.lt
        have hlb : len ≤ 29 := HTL.out
        have HF9 := hidq hF9
        have HB89 := hidq hb89
        clear hb9 hb89 hX9 hF9 hW8 x0 x1 hxl o0 hol
        go_wp2_with (at_builtin; refine wpList_flat plainR _ rfl (.tmp 83) (.tmp 85) rfl gr cr len (flatR T) rfl (HF9.out.but (S := fun _ => False) ((But.refl _ _).alloc _) id) _ rfl 1 _ (src_two _ Try.underlying52 _ (.int .u64 q) (.int .i64 x) (by simp) (by simp) rfl rfl) (by omega) ?_; intro g9 c9 w10 hF10 hB10 hg10)
        have HZ := hidq (show KA w sb mb k (i + 1) g9 c9 (T ++ [mkKI (nf p) x]) w10 ∧ len + 1 = (T ++ [mkKI (nf p) x]).length from by
          have hle := hlen.out
          have hTl : (T ++ [mkKI (nf p) x]).length = len + 1 := by rw [List.length_append, hle]; rfl
          have hfr : flatR (T ++ [mkKI (nf p) x]) = flatR T ++ [.int .u64 q, .int .i64 x] := by
            rw [flatR_append]
            have e2 : (mkKI (nf p) x).v = x := mkKI_v HNF.out.2.2 x
            have e3 : flatR [mkKI (nf p) x] = [.int .u64 (ni (mkKI (nf p) x).b), .int .i64 (mkKI (nf p) x).v] := rfl
            rw [e3, e2, ← HNF.out.2.1]
          refine ⟨?_, hTl.symm⟩
          rw [← hTl, ← hfr] at hF10
          have hb9 := HB89.out
          have hsz := hb9.size
          refine HO.out w10 _ _ c9 (((But.of_below hb9).trans ((But.refl (fun j => j = gr) w9).alloc _)).trans hB10) HT'.out.symm (hg10.imp id (fun e => by simp at e; omega)) hF10)
        clear hF10 hB10 hg10 HF9 HB89 HO HF HT'
        go_wp2
        go_roundw
        case rel => exact ⟨i + 1, _, g9, c9, _, rfl, by go_num, by have := HLT.out; omega, hidq HZ.out.2, hidq HZ.out.1⟩
        case measure => simp [intOf]; omega
      · subst hTn
        have hl0 : len = 0 := by have := hlen.out; simpa using this
        subst hl0
        have FIN := hidq (fun W (hW : Below w8.heap.size w8 W) => (show KA w sb mb k (i + 1) gr cr [] W from HO.out W [] gr cr (But.of_below hW) hT'.symm (.inl rfl) (HF.out.but (S := fun _ => False) (But.of_below hW) id)))
        have HZ := hidq (FIN.out (w8.alloc (.cells #[.bool false, .float .f64 0, .int .i64 0, .int .i64 0] 48)) ((Below.refl _ _).alloc (Nat.le_refl _) _))
        clear HO HF HXB HW FIN x0 x1 hxl hT'
        go_wp2
        go_roundw
        case rel => exact ⟨i + 1, [], gr, cr, 0, rfl, by go_num, by have := HLT.out; omega, hidq rfl, HZ⟩
        case measure => simp [intOf]; omega
      · have hlp : 0 < len := by
          have := hlen.out
          rcases T with _ | ⟨y, T⟩
          · simp at hz
          · simp at this; omega
        obtain ⟨ix, hik, hil, hiz, hin, her⟩ := first_ix T k hz
        rw [← hlen.out] at hil
        have hlpI : (0 : Int) < (len : Int) := by omega
        obtain ⟨m, hm⟩ : ∃ m, m = min k len := ⟨_, rfl⟩
        have hix : ix < m := by omega
        have hml : m ≤ len := by omega
        have HZ0 := hidq (And.intro hiz (And.intro hin (And.intro her (And.intro hT' (And.intro hix (And.intro hml (And.intro hlpI hlp)))))))
        obtain ⟨W9, hW9⟩ : ∃ W9, w8.alloc (.cells #[.bool true, .float .f64 z.b, .int .i64 z.v, .int .i64 0] 48) = W9 := ⟨_, rfl⟩
        obtain ⟨ab, hab⟩ : ∃ ab, w8.heap.size = ab := ⟨_, rfl⟩
        have hA9 : BoxAt W9 ab [.bool true, .float .f64 z.b, .int .i64 z.v, .int .i64 0] := by rw [← hW9, ← hab]; exact BoxAt.new w8 [.bool true, .float .f64 z.b, .int .i64 z.v, .int .i64 0] 48
        have hb9 : Below w8.heap.size w8 W9 := by rw [← hW9]; exact (Below.refl _ _).alloc (Nat.le_refl _) _
        have HA9 := hidq (And.intro hA9 (And.intro hb9 (And.intro hab hW9)))
        clear hA9 hb9 hab hW9 HW hT' hiz hin her hz hix hil hml HXB x0 x1 hxl
        have hcr := HF.out.le
        have hmm : (k ≤ len ∧ m = k) ∨ (len < k ∧ m = len) := by omega
        clear hm
        rcases hmm with ⟨hkl, hmk⟩ | ⟨hkl, hmk⟩
        · have hkI : (k : Int) ≤ (len : Int) := by omega
          have hkc : k ≤ cr := by omega
          have hkcI : (k : Int) ≤ (cr : Int) := by omega
          have HMK := hidq hmk
          clear hmk
          go_wp2_with fail
          have hmk := HMK.out
          clear HMK
          subst hmk
          obtain ⟨hA9, hb9, hab, hW9⟩ := HA9.out
          rw [hW9, hab]
          obtain ⟨hiz, hin, her, hT', hix, hml, _, _⟩ := HZ0.out
          have HF9 := hidq (show Flat 2 W9 gr cr len (flatR T) from HF.out.but (S := fun _ => False) (But.of_below hb9) id)
          have HIX := hidq (And.intro hiz (And.intro hin (And.intro her (And.intro hT' (And.intro hml hix)))))
          have HB9 := hidq (And.intro hA9 hb9)
          clear hA9 hb9 hab hW9 hiz hin her hT' HZ0 HA9 hik HF hlp hlpI hkl hkI hkcI hcr hkc
          go_loopw [14, 97] (fun s14 s97 wr => ∃ j : Nat, s97 = .int .i64 (j : Int) ∧ j ≤ m ∧ s14 = (if ix < j then .int .i64 (ix : Int) else .int .i64 (-1)) ∧ Hid (Below W9.heap.size W9 wr)) (fun _ s97 _ => m - (intOf s97).toNat)
          case atStart => exact ⟨0, rfl, Nat.zero_le _, by rw [if_neg (Nat.not_lt_zero _)], hidq (Below.refl _ _)⟩
          case round =>
            obtain ⟨W2, hw2⟩ : ∃ W2, W2 = wr := ⟨_, rfl⟩
            subst hw2
            rename_i s14 s97
            obtain ⟨j, rfl, hjm, h14, hBW⟩ := hrel
            by_cases hj : j < m
            · have hjT : j < T.length := by have := hlen.out; omega
              have hjI : (j : Int) < (m : Int) := by omega
              have hjL : j < len := by omega
              have hjLI : (j : Int) < (len : Int) := by omega
              have hjs : (j : Int) ≤ 100 := by have := HTL.out; omega
              obtain ⟨y, hy⟩ : ∃ y, T[j] = y := ⟨_, rfl⟩
              obtain ⟨yq, hyq⟩ : ∃ yq, ni y.b = yq := ⟨_, rfl⟩
              obtain ⟨yv, hyv⟩ : ∃ yv, y.v = yv := ⟨_, rfl⟩
              have hg2 := flatR_get T j hjT
              rw [hy, hyq, hyv] at hg2
              have hgl := HF9.out.lt
              have FC2 := hidq (fun W (hW : Below W2.heap.size W2 W) => (show W.cell? ⟨ab, 1, none⟩ = some (.float .f64 z.b) ∧ W.cell? ⟨ab, 2, none⟩ = some (.int .i64 z.v) ∧ W.cell? ⟨gr, j * 2, none⟩ = some (.int .u64 yq) ∧ W.cell? ⟨gr, j * 2 + 1, none⟩ = some (.int .i64 yv) from by
                have hT := hBW.out.trans (hW.mono hBW.out.size)
                have q := HB9.out.1.below hT
                exact ⟨(q.get 1 _ rfl).1, (q.get 2 _ rfl).1, (hT.cell (p := ⟨gr, j * 2, none⟩) hgl).trans (HF9.out.cell _ _ hg2.1), (hT.cell (p := ⟨gr, j * 2 + 1, none⟩) hgl).trans (HF9.out.cell _ _ hg2.2)⟩))
              have hyT : T[j]? = some y := by rw [List.getElem?_eq_getElem hjT, hy]
              rcases Nat.lt_trichotomy j ix with hlo | heq | hhi
              · rw [if_neg (by omega)] at h14
                subst h14
                have hIs := hidq (fun W => (show Calls Try.prog 14 #[.agg #[.float .f64 z.b, .int .i64 z.v], .agg #[.int .u64 yq, .int .i64 yv]] W fun e w' => e = .returned (.int .i64 (-1)) ∧ Below W.heap.size W w' from by
                  have := is_any z.b z.v yq yv W
                  rw [← hyq, ← hyv, isV_ne (fun e => HIX.out.2.1 j hlo (by rw [hyT, e])), hyq, hyv] at this
                  exact this))
                have HJ := hidq (And.intro hj hlo)
                clear hyT hg2 hgl hy hyq hyv hjT hlo hj
                go_wp2_with fail
                have hrefl : ∀ w : World, Reg.Keeps w w := Reg.Keeps.refl
                refine Reg.wp_region_props (Reg.ofList (kal25lo ab gr len cr j ix z.b z.v yq yv)) Reg.Keeps (fun _ w => Reg.Keeps W2 w) (by kernel_rfl) (by kernel_rfl) (Reg.AllKept.at _ (kal25lo_kept ab gr len cr j ix z.b z.v yq yv)) hrefl (Reg.Keeps.drewN (Reg.Keeps.refl _) 1) ⟨?_, ?_, ?_, ?_, ?_, ?_, ?_, ?_, ?_, ?_, ?_, ?_, trivial⟩ ?_
                · refine Reg.StepAt.plain (i := 0) rfl ?_
                  intro L ev w hI hk hp hA
                  have e14 : ev (.tmp 14) = .int .i64 (-1) := hA.oldNone 14 (by kernel_rfl)
                  have hcc := hA.const
                  clear hA hp
                  refine Reg.out_value (v := .int .i64 (-1)) ?_ ⟨rfl, hrefl _, hI⟩
                  go_simp
                · refine Reg.StepAt.plain (i := 1) rfl ?_
                  intro L ev w hI hk hp hA
                  have e100 : ev (.tmp 100) = .int .i64 (-1) := hA.val 0 _ 100 rfl (hp ⟨0, .data⟩ (by simp) rfl) rfl
                  have hcc := hA.const
                  clear hA hp
                  refine Reg.out_value (v := .bool true) ?_ ⟨rfl, hrefl _, hI⟩
                  go_simp
                · refine Reg.StepAt.plain (i := 2) rfl ?_
                  intro L ev w hI hk hp hA
                  have e101 : ev (.tmp 101) = .bool true := hA.val 1 _ 101 rfl (hp ⟨1, .data⟩ (by simp) rfl) rfl
                  have hcc := hA.const
                  clear hA hp
                  refine Reg.out_value (v := .bool true) ?_ ⟨rfl, hrefl _, hI⟩
                  go_simp
                · refine Reg.StepAt.guarded (i := 3) rfl ?_
                  intro L ev w hI hk hp hA
                  have e12 : ev (.tmp 12) = .pointer (some ⟨ab, 0, none⟩) := hA.oldNone 12 (by kernel_rfl)
                  have eg : ev (.tmp 102) = .bool true := hA.val 2 _ 102 rfl (hp ⟨2, .guard⟩ (by simp) rfl) rfl
                  refine ⟨_, 102, true, rfl, rfl, eg, ?_⟩
                  rw [if_pos rfl]
                  have hcc := hA.const
                  clear hA hp
                  refine Reg.out_value (v := .pointer (some ⟨ab, 1, none⟩)) ?_ ⟨rfl, hrefl _, hI⟩
                  go_simp
                · refine Reg.StepAt.guarded (i := 4) rfl ?_
                  intro L ev w hI hk hp hA
                  have e103 : ev (.tmp 103) = .pointer (some ⟨ab, 1, none⟩) := hA.val 3 _ 103 rfl (hp ⟨3, .data⟩ (by simp) rfl) rfl
                  have eg : ev (.tmp 102) = .bool true := hA.val 2 _ 102 rfl (hp ⟨2, .guard⟩ (by simp) rfl) rfl
                  refine ⟨_, 102, true, rfl, rfl, eg, ?_⟩
                  rw [if_pos rfl]
                  have hcc := hA.const
                  clear hA hp
                  obtain ⟨f0, f1, f2, f3⟩ := FC2.out w hI
                  refine Reg.out_value (v := .agg #[.float .f64 z.b, .int .i64 z.v]) ?_ ⟨rfl, hrefl _, hI⟩
                  go_simp
                · refine Reg.StepAt.guarded (i := 5) rfl ?_
                  intro L ev w hI hk hp hA
                  have e8 : ev (.tmp 8) = .slice (some ⟨gr, 0, none⟩) len cr := hA.oldNone 8 (by kernel_rfl)
                  have eg : ev (.tmp 102) = .bool true := hA.val 2 _ 102 rfl (hp ⟨2, .guard⟩ (by simp) rfl) rfl
                  refine ⟨_, 102, true, rfl, rfl, eg, ?_⟩
                  rw [if_pos rfl]
                  have hcc := hA.const
                  clear hA hp
                  refine Reg.out_value (v := .slice (some ⟨gr, 0, none⟩) len cr) ?_ ⟨rfl, hrefl _, hI⟩
                  go_simp
                · refine Reg.StepAt.guarded (i := 6) rfl ?_
                  intro L ev w hI hk hp hA
                  have e15 : ev (.tmp 15) = .int .i64 (j : Int) := hA.oldNone 15 (by kernel_rfl)
                  have eg : ev (.tmp 102) = .bool true := hA.val 2 _ 102 rfl (hp ⟨2, .guard⟩ (by simp) rfl) rfl
                  refine ⟨_, 102, true, rfl, rfl, eg, ?_⟩
                  rw [if_pos rfl]
                  have hcc := hA.const
                  clear hA hp
                  refine Reg.out_value (v := .int .i64 (j : Int)) ?_ ⟨rfl, hrefl _, hI⟩
                  go_simp
                · refine Reg.StepAt.guarded (i := 7) rfl ?_
                  intro L ev w hI hk hp hA
                  have e105 : ev (.tmp 105) = .slice (some ⟨gr, 0, none⟩) len cr := hA.val 5 _ 105 rfl (hp ⟨5, .data⟩ (by simp) rfl) rfl
                  have e106 : ev (.tmp 106) = .int .i64 (j : Int) := hA.val 6 _ 106 rfl (hp ⟨6, .data⟩ (by simp) rfl) rfl
                  have eg : ev (.tmp 102) = .bool true := hA.val 2 _ 102 rfl (hp ⟨2, .guard⟩ (by simp) rfl) rfl
                  refine ⟨_, 102, true, rfl, rfl, eg, ?_⟩
                  rw [if_pos rfl]
                  have hcc := hA.const
                  clear hA hp
                  refine Reg.out_value (v := .pointer (some ⟨gr, j * 2, none⟩)) ?_ ⟨rfl, hrefl _, hI⟩
                  go_simp
                · refine Reg.StepAt.guarded (i := 8) rfl ?_
                  intro L ev w hI hk hp hA
                  have e107 : ev (.tmp 107) = .pointer (some ⟨gr, j * 2, none⟩) := hA.val 7 _ 107 rfl (hp ⟨7, .data⟩ (by simp) rfl) rfl
                  have eg : ev (.tmp 102) = .bool true := hA.val 2 _ 102 rfl (hp ⟨2, .guard⟩ (by simp) rfl) rfl
                  refine ⟨_, 102, true, rfl, rfl, eg, ?_⟩
                  rw [if_pos rfl]
                  have hcc := hA.const
                  clear hA hp
                  obtain ⟨f0, f1, f2, f3⟩ := FC2.out w hI
                  refine Reg.out_value (v := .agg #[.int .u64 yq, .int .i64 yv]) ?_ ⟨rfl, hrefl _, hI⟩
                  go_simp
                · refine Reg.StepAt.guarded (i := 9) rfl ?_
                  intro L ev w hI hk hp hA
                  have e104 : ev (.tmp 104) = .agg #[.float .f64 z.b, .int .i64 z.v] := hA.val 4 _ 104 rfl (hp ⟨4, .data⟩ (by simp) rfl) rfl
                  have e108 : ev (.tmp 108) = .agg #[.int .u64 yq, .int .i64 yv] := hA.val 8 _ 108 rfl (hp ⟨8, .data⟩ (by simp) rfl) rfl
                  have eg : ev (.tmp 102) = .bool true := hA.val 2 _ 102 rfl (hp ⟨2, .chain⟩ (by simp) rfl) rfl
                  refine ⟨_, 102, true, rfl, rfl, eg, ?_⟩
                  rw [if_pos rfl]
                  have hcc := hA.const
                  have hcf := hA.func
                  clear hA hp
                  refine Reg.out_call (f := 14) (args := #[.agg #[.float .f64 z.b, .int .i64 z.v], .agg #[.int .u64 yq, .int .i64 yv]]) (w0 := w) ?_ ?_
                  · go_simp
                  refine (hIs.out w).mono ?_
                  rintro e w' ⟨rfl, hb'⟩
                  exact ⟨_, rfl, rfl, hb', Reg.Keeps.trans hI hb'⟩
                · refine Reg.StepAt.guarded (i := 10) rfl ?_
                  intro L ev w hI hk hp hA
                  have e109 : ev (.tmp 109) = .int .i64 (-1) := hA.val 9 _ 109 rfl (hp ⟨9, .data⟩ (by simp) rfl) rfl
                  have eg : ev (.tmp 102) = .bool true := hA.val 2 _ 102 rfl (hp ⟨2, .guard⟩ (by simp) rfl) rfl
                  refine ⟨_, 102, true, rfl, rfl, eg, ?_⟩
                  rw [if_pos rfl]
                  have hcc := hA.const
                  clear hA hp
                  refine Reg.out_value (v := .bool false) ?_ ⟨rfl, hrefl _, hI⟩
                  go_simp
                · refine Reg.StepAt.plain (i := 11) rfl ?_
                  intro L ev w hI hk hp hA
                  have e102 : ev (.tmp 102) = .bool true := hA.val 2 _ 102 rfl (hp ⟨2, .data⟩ (by simp) rfl) rfl
                  have e110 : ev (.tmp 110) = .bool false := hA.val 10 _ 110 rfl (hp ⟨10, .data⟩ (by simp) rfl) rfl
                  have hcc := hA.const
                  clear hA hp
                  refine Reg.out_value (v := .bool false) ?_ ⟨rfl, hrefl _, hI⟩
                  go_simp
                intro L act wz hall hI hF
                have g100 : act.eval (.tmp 100) = .int .i64 (-1) := hF.val 0 _ 100 rfl (hall 0 (by simp)) rfl
                have g101 : act.eval (.tmp 101) = .bool true := hF.val 1 _ 101 rfl (hall 1 (by simp)) rfl
                have g102 : act.eval (.tmp 102) = .bool true := hF.val 2 _ 102 rfl (hall 2 (by simp)) rfl
                have g103 : act.eval (.tmp 103) = .pointer (some ⟨ab, 1, none⟩) := hF.val 3 _ 103 rfl (hall 3 (by simp)) rfl
                have g104 : act.eval (.tmp 104) = .agg #[.float .f64 z.b, .int .i64 z.v] := hF.val 4 _ 104 rfl (hall 4 (by simp)) rfl
                have g105 : act.eval (.tmp 105) = .slice (some ⟨gr, 0, none⟩) len cr := hF.val 5 _ 105 rfl (hall 5 (by simp)) rfl
                have g106 : act.eval (.tmp 106) = .int .i64 (j : Int) := hF.val 6 _ 106 rfl (hall 6 (by simp)) rfl
                have g107 : act.eval (.tmp 107) = .pointer (some ⟨gr, j * 2, none⟩) := hF.val 7 _ 107 rfl (hall 7 (by simp)) rfl
                have g108 : act.eval (.tmp 108) = .agg #[.int .u64 yq, .int .i64 yv] := hF.val 8 _ 108 rfl (hall 8 (by simp)) rfl
                have g109 : act.eval (.tmp 109) = .int .i64 (-1) := hF.val 9 _ 109 rfl (hall 9 (by simp)) rfl
                have g110 : act.eval (.tmp 110) = .bool false := hF.val 10 _ 110 rfl (hall 10 (by simp)) rfl
                have g111 : act.eval (.tmp 111) = .bool false := hF.val 11 _ 111 rfl (hall 11 (by simp)) rfl
                have hact := hF.act [100, 101, 102, 103, 104, 105, 106, 107, 108, 109, 110, 111] (by kernel_rfl)
                clear hF hall
                simp only [List.foldl_cons, List.foldl_nil] at hact
                rw [g100, g101, g102, g103, g104, g105, g106, g107, g108, g109, g110, g111] at hact
                clear g100 g101 g102 g103 g104 g105 g106 g107 g108 g109 g110 g111
                simp only [List.setIfInBounds_toArray, List.set_cons_succ, List.set_cons_zero] at hact
                subst hact
                have HI := hidq (show Below W9.heap.size W9 wz from hBW.out.trans ((show Below W2.heap.size W2 wz from hI).mono hBW.out.size))
                clear hI hBW
                go_wp2
                go_roundw
                case rel => exact ⟨j + 1, by go_num, by have := HJ.out; omega, by rw [if_neg (by have := HJ.out; omega)], HI⟩
                case measure => simp [intOf]; have := HJ.out; omega
              · subst heq
                rw [if_neg (by omega)] at h14
                subst h14
                have hIs := hidq (fun W => (show Calls Try.prog 14 #[.agg #[.float .f64 z.b, .int .i64 z.v], .agg #[.int .u64 yq, .int .i64 yv]] W fun e w' => e = .returned (.int .i64 0) ∧ Below W.heap.size W w' from by
                  have := is_any z.b z.v yq yv W
                  have hzy : y = z := by have h1 := HIX.out.1; rw [hyT] at h1; injection h1
                  rw [← hyq, ← hyv, hzy, isV_same z] at this
                  rw [← hyq, ← hyv, hzy]
                  exact this))
                have HJ := hidq hj
                clear hyT hg2 hgl hy hyq hyv hjT hj
                go_wp2_with fail
                have hrefl : ∀ w : World, Reg.Keeps w w := Reg.Keeps.refl
                refine Reg.wp_region_props (Reg.ofList (kal25at ab gr len cr j j z.b z.v yq yv)) Reg.Keeps (fun _ w => Reg.Keeps W2 w) (by kernel_rfl) (by kernel_rfl) (Reg.AllKept.at _ (kal25at_kept ab gr len cr j j z.b z.v yq yv)) hrefl (Reg.Keeps.drewN (Reg.Keeps.refl _) 1) ⟨?_, ?_, ?_, ?_, ?_, ?_, ?_, ?_, ?_, ?_, ?_, ?_, trivial⟩ ?_
                · refine Reg.StepAt.plain (i := 0) rfl ?_
                  intro L ev w hI hk hp hA
                  have e14 : ev (.tmp 14) = .int .i64 (-1) := hA.oldNone 14 (by kernel_rfl)
                  have hcc := hA.const
                  clear hA hp
                  refine Reg.out_value (v := .int .i64 (-1)) ?_ ⟨rfl, hrefl _, hI⟩
                  go_simp
                · refine Reg.StepAt.plain (i := 1) rfl ?_
                  intro L ev w hI hk hp hA
                  have e100 : ev (.tmp 100) = .int .i64 (-1) := hA.val 0 _ 100 rfl (hp ⟨0, .data⟩ (by simp) rfl) rfl
                  have hcc := hA.const
                  clear hA hp
                  refine Reg.out_value (v := .bool true) ?_ ⟨rfl, hrefl _, hI⟩
                  go_simp
                · refine Reg.StepAt.plain (i := 2) rfl ?_
                  intro L ev w hI hk hp hA
                  have e101 : ev (.tmp 101) = .bool true := hA.val 1 _ 101 rfl (hp ⟨1, .data⟩ (by simp) rfl) rfl
                  have hcc := hA.const
                  clear hA hp
                  refine Reg.out_value (v := .bool true) ?_ ⟨rfl, hrefl _, hI⟩
                  go_simp
                · refine Reg.StepAt.guarded (i := 3) rfl ?_
                  intro L ev w hI hk hp hA
                  have e12 : ev (.tmp 12) = .pointer (some ⟨ab, 0, none⟩) := hA.oldNone 12 (by kernel_rfl)
                  have eg : ev (.tmp 102) = .bool true := hA.val 2 _ 102 rfl (hp ⟨2, .guard⟩ (by simp) rfl) rfl
                  refine ⟨_, 102, true, rfl, rfl, eg, ?_⟩
                  rw [if_pos rfl]
                  have hcc := hA.const
                  clear hA hp
                  refine Reg.out_value (v := .pointer (some ⟨ab, 1, none⟩)) ?_ ⟨rfl, hrefl _, hI⟩
                  go_simp
                · refine Reg.StepAt.guarded (i := 4) rfl ?_
                  intro L ev w hI hk hp hA
                  have e103 : ev (.tmp 103) = .pointer (some ⟨ab, 1, none⟩) := hA.val 3 _ 103 rfl (hp ⟨3, .data⟩ (by simp) rfl) rfl
                  have eg : ev (.tmp 102) = .bool true := hA.val 2 _ 102 rfl (hp ⟨2, .guard⟩ (by simp) rfl) rfl
                  refine ⟨_, 102, true, rfl, rfl, eg, ?_⟩
                  rw [if_pos rfl]
                  have hcc := hA.const
                  clear hA hp
                  obtain ⟨f0, f1, f2, f3⟩ := FC2.out w hI
                  refine Reg.out_value (v := .agg #[.float .f64 z.b, .int .i64 z.v]) ?_ ⟨rfl, hrefl _, hI⟩
                  go_simp
                · refine Reg.StepAt.guarded (i := 5) rfl ?_
                  intro L ev w hI hk hp hA
                  have e8 : ev (.tmp 8) = .slice (some ⟨gr, 0, none⟩) len cr := hA.oldNone 8 (by kernel_rfl)
                  have eg : ev (.tmp 102) = .bool true := hA.val 2 _ 102 rfl (hp ⟨2, .guard⟩ (by simp) rfl) rfl
                  refine ⟨_, 102, true, rfl, rfl, eg, ?_⟩
                  rw [if_pos rfl]
                  have hcc := hA.const
                  clear hA hp
                  refine Reg.out_value (v := .slice (some ⟨gr, 0, none⟩) len cr) ?_ ⟨rfl, hrefl _, hI⟩
                  go_simp
                · refine Reg.StepAt.guarded (i := 6) rfl ?_
                  intro L ev w hI hk hp hA
                  have e15 : ev (.tmp 15) = .int .i64 (j : Int) := hA.oldNone 15 (by kernel_rfl)
                  have eg : ev (.tmp 102) = .bool true := hA.val 2 _ 102 rfl (hp ⟨2, .guard⟩ (by simp) rfl) rfl
                  refine ⟨_, 102, true, rfl, rfl, eg, ?_⟩
                  rw [if_pos rfl]
                  have hcc := hA.const
                  clear hA hp
                  refine Reg.out_value (v := .int .i64 (j : Int)) ?_ ⟨rfl, hrefl _, hI⟩
                  go_simp
                · refine Reg.StepAt.guarded (i := 7) rfl ?_
                  intro L ev w hI hk hp hA
                  have e105 : ev (.tmp 105) = .slice (some ⟨gr, 0, none⟩) len cr := hA.val 5 _ 105 rfl (hp ⟨5, .data⟩ (by simp) rfl) rfl
                  have e106 : ev (.tmp 106) = .int .i64 (j : Int) := hA.val 6 _ 106 rfl (hp ⟨6, .data⟩ (by simp) rfl) rfl
                  have eg : ev (.tmp 102) = .bool true := hA.val 2 _ 102 rfl (hp ⟨2, .guard⟩ (by simp) rfl) rfl
                  refine ⟨_, 102, true, rfl, rfl, eg, ?_⟩
                  rw [if_pos rfl]
                  have hcc := hA.const
                  clear hA hp
                  refine Reg.out_value (v := .pointer (some ⟨gr, j * 2, none⟩)) ?_ ⟨rfl, hrefl _, hI⟩
                  go_simp
                · refine Reg.StepAt.guarded (i := 8) rfl ?_
                  intro L ev w hI hk hp hA
                  have e107 : ev (.tmp 107) = .pointer (some ⟨gr, j * 2, none⟩) := hA.val 7 _ 107 rfl (hp ⟨7, .data⟩ (by simp) rfl) rfl
                  have eg : ev (.tmp 102) = .bool true := hA.val 2 _ 102 rfl (hp ⟨2, .guard⟩ (by simp) rfl) rfl
                  refine ⟨_, 102, true, rfl, rfl, eg, ?_⟩
                  rw [if_pos rfl]
                  have hcc := hA.const
                  clear hA hp
                  obtain ⟨f0, f1, f2, f3⟩ := FC2.out w hI
                  refine Reg.out_value (v := .agg #[.int .u64 yq, .int .i64 yv]) ?_ ⟨rfl, hrefl _, hI⟩
                  go_simp
                · refine Reg.StepAt.guarded (i := 9) rfl ?_
                  intro L ev w hI hk hp hA
                  have e104 : ev (.tmp 104) = .agg #[.float .f64 z.b, .int .i64 z.v] := hA.val 4 _ 104 rfl (hp ⟨4, .data⟩ (by simp) rfl) rfl
                  have e108 : ev (.tmp 108) = .agg #[.int .u64 yq, .int .i64 yv] := hA.val 8 _ 108 rfl (hp ⟨8, .data⟩ (by simp) rfl) rfl
                  have eg : ev (.tmp 102) = .bool true := hA.val 2 _ 102 rfl (hp ⟨2, .chain⟩ (by simp) rfl) rfl
                  refine ⟨_, 102, true, rfl, rfl, eg, ?_⟩
                  rw [if_pos rfl]
                  have hcc := hA.const
                  have hcf := hA.func
                  clear hA hp
                  refine Reg.out_call (f := 14) (args := #[.agg #[.float .f64 z.b, .int .i64 z.v], .agg #[.int .u64 yq, .int .i64 yv]]) (w0 := w) ?_ ?_
                  · go_simp
                  refine (hIs.out w).mono ?_
                  rintro e w' ⟨rfl, hb'⟩
                  exact ⟨_, rfl, rfl, hb', Reg.Keeps.trans hI hb'⟩
                · refine Reg.StepAt.guarded (i := 10) rfl ?_
                  intro L ev w hI hk hp hA
                  have e109 : ev (.tmp 109) = .int .i64 (0) := hA.val 9 _ 109 rfl (hp ⟨9, .data⟩ (by simp) rfl) rfl
                  have eg : ev (.tmp 102) = .bool true := hA.val 2 _ 102 rfl (hp ⟨2, .guard⟩ (by simp) rfl) rfl
                  refine ⟨_, 102, true, rfl, rfl, eg, ?_⟩
                  rw [if_pos rfl]
                  have hcc := hA.const
                  clear hA hp
                  refine Reg.out_value (v := .bool true) ?_ ⟨rfl, hrefl _, hI⟩
                  go_simp
                · refine Reg.StepAt.plain (i := 11) rfl ?_
                  intro L ev w hI hk hp hA
                  have e102 : ev (.tmp 102) = .bool true := hA.val 2 _ 102 rfl (hp ⟨2, .data⟩ (by simp) rfl) rfl
                  have e110 : ev (.tmp 110) = .bool true := hA.val 10 _ 110 rfl (hp ⟨10, .data⟩ (by simp) rfl) rfl
                  have hcc := hA.const
                  clear hA hp
                  refine Reg.out_value (v := .bool true) ?_ ⟨rfl, hrefl _, hI⟩
                  go_simp
                intro L act wz hall hI hF
                have g100 : act.eval (.tmp 100) = .int .i64 (-1) := hF.val 0 _ 100 rfl (hall 0 (by simp)) rfl
                have g101 : act.eval (.tmp 101) = .bool true := hF.val 1 _ 101 rfl (hall 1 (by simp)) rfl
                have g102 : act.eval (.tmp 102) = .bool true := hF.val 2 _ 102 rfl (hall 2 (by simp)) rfl
                have g103 : act.eval (.tmp 103) = .pointer (some ⟨ab, 1, none⟩) := hF.val 3 _ 103 rfl (hall 3 (by simp)) rfl
                have g104 : act.eval (.tmp 104) = .agg #[.float .f64 z.b, .int .i64 z.v] := hF.val 4 _ 104 rfl (hall 4 (by simp)) rfl
                have g105 : act.eval (.tmp 105) = .slice (some ⟨gr, 0, none⟩) len cr := hF.val 5 _ 105 rfl (hall 5 (by simp)) rfl
                have g106 : act.eval (.tmp 106) = .int .i64 (j : Int) := hF.val 6 _ 106 rfl (hall 6 (by simp)) rfl
                have g107 : act.eval (.tmp 107) = .pointer (some ⟨gr, j * 2, none⟩) := hF.val 7 _ 107 rfl (hall 7 (by simp)) rfl
                have g108 : act.eval (.tmp 108) = .agg #[.int .u64 yq, .int .i64 yv] := hF.val 8 _ 108 rfl (hall 8 (by simp)) rfl
                have g109 : act.eval (.tmp 109) = .int .i64 (0) := hF.val 9 _ 109 rfl (hall 9 (by simp)) rfl
                have g110 : act.eval (.tmp 110) = .bool true := hF.val 10 _ 110 rfl (hall 10 (by simp)) rfl
                have g111 : act.eval (.tmp 111) = .bool true := hF.val 11 _ 111 rfl (hall 11 (by simp)) rfl
                have hact := hF.act [100, 101, 102, 103, 104, 105, 106, 107, 108, 109, 110, 111] (by kernel_rfl)
                clear hF hall
                simp only [List.foldl_cons, List.foldl_nil] at hact
                rw [g100, g101, g102, g103, g104, g105, g106, g107, g108, g109, g110, g111] at hact
                clear g100 g101 g102 g103 g104 g105 g106 g107 g108 g109 g110 g111
                simp only [List.setIfInBounds_toArray, List.set_cons_succ, List.set_cons_zero] at hact
                subst hact
                have HI := hidq (show Below W9.heap.size W9 wz from hBW.out.trans ((show Below W2.heap.size W2 wz from hI).mono hBW.out.size))
                clear hI hBW
                go_wp2
                go_roundw
                case rel => exact ⟨j + 1, by go_num, by have := HJ.out; omega, by rw [if_pos (by omega)], HI⟩
                case measure => simp [intOf]; have := HJ.out; omega
              · rw [if_pos hhi] at h14
                subst h14
                have hix0 : decide ((ix : Int) < 0) = false := decide_eq_false (by omega)
                have HJ := hidq (And.intro hj hhi)
                clear hyT hg2 hgl hy hyq hyv hjT hhi hj
                go_wp2_with fail
                have hrefl : ∀ w : World, Reg.Keeps w w := Reg.Keeps.refl
                refine Reg.wp_region_props (Reg.ofList (kal25hi ab gr len cr j ix z.b z.v yq yv)) Reg.Keeps (fun _ w => Reg.Keeps W2 w) (by kernel_rfl) (by kernel_rfl) (Reg.AllKept.at _ (kal25hi_kept ab gr len cr j ix z.b z.v yq yv)) hrefl (Reg.Keeps.drewN (Reg.Keeps.refl _) 1) ⟨?_, ?_, ?_, ?_, ?_, ?_, ?_, ?_, ?_, ?_, ?_, ?_, trivial⟩ ?_
                · refine Reg.StepAt.plain (i := 0) rfl ?_
                  intro L ev w hI hk hp hA
                  have e14 : ev (.tmp 14) = .int .i64 (ix : Int) := hA.oldNone 14 (by kernel_rfl)
                  have hcc := hA.const
                  clear hA hp
                  refine Reg.out_value (v := .int .i64 (ix : Int)) ?_ ⟨rfl, hrefl _, hI⟩
                  go_simp
                · refine Reg.StepAt.plain (i := 1) rfl ?_
                  intro L ev w hI hk hp hA
                  have e100 : ev (.tmp 100) = .int .i64 (ix : Int) := hA.val 0 _ 100 rfl (hp ⟨0, .data⟩ (by simp) rfl) rfl
                  have hcc := hA.const
                  clear hA hp
                  refine Reg.out_value (v := .bool false) ?_ ⟨rfl, hrefl _, hI⟩
                  go_simp
                · refine Reg.StepAt.plain (i := 2) rfl ?_
                  intro L ev w hI hk hp hA
                  have e101 : ev (.tmp 101) = .bool false := hA.val 1 _ 101 rfl (hp ⟨1, .data⟩ (by simp) rfl) rfl
                  have hcc := hA.const
                  clear hA hp
                  refine Reg.out_value (v := .bool false) ?_ ⟨rfl, hrefl _, hI⟩
                  go_simp
                · refine Reg.StepAt.guarded (i := 3) rfl ?_
                  intro L ev w hI hk hp hA
                  have e12 : ev (.tmp 12) = .pointer (some ⟨ab, 0, none⟩) := hA.oldNone 12 (by kernel_rfl)
                  have eg : ev (.tmp 102) = .bool false := hA.val 2 _ 102 rfl (hp ⟨2, .guard⟩ (by simp) rfl) rfl
                  refine ⟨_, 102, false, rfl, rfl, eg, ?_⟩
                  rw [if_neg (by decide)]
                  have hcc := hA.const
                  clear hA hp
                  exact ⟨trivial, hI⟩
                · refine Reg.StepAt.guarded (i := 4) rfl ?_
                  intro L ev w hI hk hp hA
                  have e103 : (fun _ _ => True) (ev (.tmp 103)) w := hA.val 3 _ 103 rfl (hp ⟨3, .data⟩ (by simp) rfl) rfl
                  have eg : ev (.tmp 102) = .bool false := hA.val 2 _ 102 rfl (hp ⟨2, .guard⟩ (by simp) rfl) rfl
                  refine ⟨_, 102, false, rfl, rfl, eg, ?_⟩
                  rw [if_neg (by decide)]
                  have hcc := hA.const
                  clear hA hp
                  exact ⟨trivial, hI⟩
                · refine Reg.StepAt.guarded (i := 5) rfl ?_
                  intro L ev w hI hk hp hA
                  have e8 : ev (.tmp 8) = .slice (some ⟨gr, 0, none⟩) len cr := hA.oldNone 8 (by kernel_rfl)
                  have eg : ev (.tmp 102) = .bool false := hA.val 2 _ 102 rfl (hp ⟨2, .guard⟩ (by simp) rfl) rfl
                  refine ⟨_, 102, false, rfl, rfl, eg, ?_⟩
                  rw [if_neg (by decide)]
                  have hcc := hA.const
                  clear hA hp
                  exact ⟨trivial, hI⟩
                · refine Reg.StepAt.guarded (i := 6) rfl ?_
                  intro L ev w hI hk hp hA
                  have e15 : ev (.tmp 15) = .int .i64 (j : Int) := hA.oldNone 15 (by kernel_rfl)
                  have eg : ev (.tmp 102) = .bool false := hA.val 2 _ 102 rfl (hp ⟨2, .guard⟩ (by simp) rfl) rfl
                  refine ⟨_, 102, false, rfl, rfl, eg, ?_⟩
                  rw [if_neg (by decide)]
                  have hcc := hA.const
                  clear hA hp
                  exact ⟨trivial, hI⟩
                · refine Reg.StepAt.guarded (i := 7) rfl ?_
                  intro L ev w hI hk hp hA
                  have e105 : (fun _ _ => True) (ev (.tmp 105)) w := hA.val 5 _ 105 rfl (hp ⟨5, .data⟩ (by simp) rfl) rfl
                  have e106 : (fun _ _ => True) (ev (.tmp 106)) w := hA.val 6 _ 106 rfl (hp ⟨6, .data⟩ (by simp) rfl) rfl
                  have eg : ev (.tmp 102) = .bool false := hA.val 2 _ 102 rfl (hp ⟨2, .guard⟩ (by simp) rfl) rfl
                  refine ⟨_, 102, false, rfl, rfl, eg, ?_⟩
                  rw [if_neg (by decide)]
                  have hcc := hA.const
                  clear hA hp
                  exact ⟨trivial, hI⟩
                · refine Reg.StepAt.guarded (i := 8) rfl ?_
                  intro L ev w hI hk hp hA
                  have e107 : (fun _ _ => True) (ev (.tmp 107)) w := hA.val 7 _ 107 rfl (hp ⟨7, .data⟩ (by simp) rfl) rfl
                  have eg : ev (.tmp 102) = .bool false := hA.val 2 _ 102 rfl (hp ⟨2, .guard⟩ (by simp) rfl) rfl
                  refine ⟨_, 102, false, rfl, rfl, eg, ?_⟩
                  rw [if_neg (by decide)]
                  have hcc := hA.const
                  clear hA hp
                  exact ⟨trivial, hI⟩
                · refine Reg.StepAt.guarded (i := 9) rfl ?_
                  intro L ev w hI hk hp hA
                  have e104 : (fun _ _ => True) (ev (.tmp 104)) w := hA.val 4 _ 104 rfl (hp ⟨4, .data⟩ (by simp) rfl) rfl
                  have e108 : (fun _ _ => True) (ev (.tmp 108)) w := hA.val 8 _ 108 rfl (hp ⟨8, .data⟩ (by simp) rfl) rfl
                  have eg : ev (.tmp 102) = .bool false := hA.val 2 _ 102 rfl (hp ⟨2, .chain⟩ (by simp) rfl) rfl
                  refine ⟨_, 102, false, rfl, rfl, eg, ?_⟩
                  rw [if_neg (by decide)]
                  have hcc := hA.const
                  have hcf := hA.func
                  clear hA hp
                  exact ⟨trivial, hI⟩
                · refine Reg.StepAt.guarded (i := 10) rfl ?_
                  intro L ev w hI hk hp hA
                  have e109 : (fun _ _ => True) (ev (.tmp 109)) w := hA.val 9 _ 109 rfl (hp ⟨9, .data⟩ (by simp) rfl) rfl
                  have eg : ev (.tmp 102) = .bool false := hA.val 2 _ 102 rfl (hp ⟨2, .guard⟩ (by simp) rfl) rfl
                  refine ⟨_, 102, false, rfl, rfl, eg, ?_⟩
                  rw [if_neg (by decide)]
                  have hcc := hA.const
                  clear hA hp
                  exact ⟨trivial, hI⟩
                · refine Reg.StepAt.plain (i := 11) rfl ?_
                  intro L ev w hI hk hp hA
                  have e102 : ev (.tmp 102) = .bool false := hA.val 2 _ 102 rfl (hp ⟨2, .data⟩ (by simp) rfl) rfl
                  have e110 : (fun _ _ => True) (ev (.tmp 110)) w := hA.val 10 _ 110 rfl (hp ⟨10, .data⟩ (by simp) rfl) rfl
                  have hcc := hA.const
                  clear hA hp
                  refine Reg.out_value (v := .bool false) ?_ ⟨rfl, hrefl _, hI⟩
                  go_simp
                intro L act wz hall hI hF
                have g100 : act.eval (.tmp 100) = .int .i64 (ix : Int) := hF.val 0 _ 100 rfl (hall 0 (by simp)) rfl
                have g101 : act.eval (.tmp 101) = .bool false := hF.val 1 _ 101 rfl (hall 1 (by simp)) rfl
                have g102 : act.eval (.tmp 102) = .bool false := hF.val 2 _ 102 rfl (hall 2 (by simp)) rfl
                have g103 : (fun _ _ => True) (act.eval (.tmp 103)) wz := hF.val 3 _ 103 rfl (hall 3 (by simp)) rfl
                have g104 : (fun _ _ => True) (act.eval (.tmp 104)) wz := hF.val 4 _ 104 rfl (hall 4 (by simp)) rfl
                have g105 : (fun _ _ => True) (act.eval (.tmp 105)) wz := hF.val 5 _ 105 rfl (hall 5 (by simp)) rfl
                have g106 : (fun _ _ => True) (act.eval (.tmp 106)) wz := hF.val 6 _ 106 rfl (hall 6 (by simp)) rfl
                have g107 : (fun _ _ => True) (act.eval (.tmp 107)) wz := hF.val 7 _ 107 rfl (hall 7 (by simp)) rfl
                have g108 : (fun _ _ => True) (act.eval (.tmp 108)) wz := hF.val 8 _ 108 rfl (hall 8 (by simp)) rfl
                have g109 : (fun _ _ => True) (act.eval (.tmp 109)) wz := hF.val 9 _ 109 rfl (hall 9 (by simp)) rfl
                have g110 : (fun _ _ => True) (act.eval (.tmp 110)) wz := hF.val 10 _ 110 rfl (hall 10 (by simp)) rfl
                have g111 : act.eval (.tmp 111) = .bool false := hF.val 11 _ 111 rfl (hall 11 (by simp)) rfl
                have hact := hF.act [100, 101, 102, 103, 104, 105, 106, 107, 108, 109, 110, 111] (by kernel_rfl)
                clear hF hall
                simp only [List.foldl_cons, List.foldl_nil] at hact
                rw [g100, g101, g102, g111] at hact
                clear g100 g101 g102 g111
                generalize act.eval (.tmp 103) = u103 at hact g103
                generalize act.eval (.tmp 104) = u104 at hact g104
                generalize act.eval (.tmp 105) = u105 at hact g105
                generalize act.eval (.tmp 106) = u106 at hact g106
                generalize act.eval (.tmp 107) = u107 at hact g107
                generalize act.eval (.tmp 108) = u108 at hact g108
                generalize act.eval (.tmp 109) = u109 at hact g109
                generalize act.eval (.tmp 110) = u110 at hact g110
                simp only [List.setIfInBounds_toArray, List.set_cons_succ, List.set_cons_zero] at hact
                subst hact
                have HI := hidq (show Below W9.heap.size W9 wz from hBW.out.trans ((show Below W2.heap.size W2 wz from hI).mono hBW.out.size))
                clear hI hBW
                go_wp2
                go_roundw
                case rel => exact ⟨j + 1, by go_num, by have := HJ.out; omega, by rw [if_pos (by have := HJ.out; omega)], HI⟩
                case measure => simp [intOf]; have := HJ.out; omega
            · have hje : m = j := by omega
              subst hje
              rw [if_pos hix] at h14
              subst h14
              have hix0 : decide ((ix : Int) < 0) = false := decide_eq_false (by omega)
              obtain ⟨jx, hjx⟩ : ∃ jx : Nat, (ix : Int) + 1 = (jx : Int) := ⟨ix + 1, by omega⟩
              have hW2 := hBW.out
              have hFl := HF9.out.but (S := fun _ => False) (But.of_below hW2) id
              have hle := hFl.le
              have hxl : ix < len := by omega
              have hxs : (ix : Int) ≤ 60 := by have := HTL.out; omega
              have hxc : ix ≤ cr := by omega
              have hxcI : (ix : Int) ≤ (cr : Int) := by omega
              have hjl : jx ≤ len := by omega
              have hjlI : (jx : Int) ≤ (len : Int) := by omega
              obtain ⟨o8, ho8⟩ : ∃ o8, o8 = if cr = jx then 0 else jx * 2 := ⟨_, rfl⟩
              have HO8 := hidq ho8
              have ho82 : o8 = jx * 2 ∨ jx = len := by
                by_cases e : cr = jx
                · exact .inr (by omega)
                · rw [if_neg e] at ho8; exact .inl ho8
              have hSa := hidq (fun W (hW : Below W2.heap.size W2 W) => part_lo (hFl.but (S := fun _ => False) (But.of_below hW) id) cr (show ix ≤ T.length by have := hlen.out; omega))
              have hSb := hidq (fun W (hW : Below W2.heap.size W2 W) => part_hi (hFl.but (S := fun _ => False) (But.of_below hW) id) (cr - jx) hlen.out.symm hjl ho82)
              obtain ⟨lo3, hlo3⟩ : ∃ lo3, W2.heap.size = lo3 := ⟨_, rfl⟩
              have HLO3 := hidq hlo3
              have HJX := hidq (show jx = ix + 1 by omega)
              have HXL := hidq (And.intro hxl hjl)
              clear hlo3 ho8 ho82 hFl hW2 hxl
              go_wp2_with fail
              have hrefl : ∀ w : World, Reg.Keeps w w := Reg.Keeps.refl
              refine Reg.wp_region_props_tail 9 (Reg.ofList (kal30R lo3 gr len cr ix jx o8 T)) Reg.Keeps (fun _ w => Reg.Keeps W2 w) (by kernel_rfl) (by kernel_rfl) (by kernel_rfl) (Reg.AllKept.at _ (kal30R_kept lo3 gr len cr ix jx o8 T)) hrefl (Reg.Keeps.drewN (Reg.Keeps.refl _) 1) ⟨?_, ?_, ?_, ?_, ?_, ?_, ?_, ?_, ?_, trivial⟩ ?_
              · refine Reg.StepAt.plain (i := 0) rfl ?_
                intro L ev w hI hk hp hA
                have hcc := hA.const
                clear hA hp
                refine Reg.out_new (v := .slice (some ⟨w.heap.size, 0, none⟩) 0 0) (w' := w.alloc (.cells #[] 45)) ?_ ⟨⟨w.heap.size, rfl, Flat.new w [] 45 2 0 rfl (Nat.zero_le _) (fun _ h => (by cases h)), by have h1 : W2.heap.size ≤ w.heap.size := hI.size; have h2 := HLO3.out; omega⟩, (Reg.Keeps.refl _).alloc _, Reg.Keeps.alloc hI _⟩
                go_simp
              · refine Reg.StepAt.plain (i := 1) rfl ?_
                intro L ev w hI hk hp hA
                have e8 : ev (.tmp 8) = .slice (some ⟨gr, 0, none⟩) len cr := hA.oldBut 10 _ 8 (by kernel_rfl) rfl ⟨1, .phase⟩ (by simp) rfl hk
                have hcc := hA.const
                clear hA hp
                refine Reg.out_value (v := .slice (some ⟨gr, 0, none⟩) len cr) ?_ ⟨rfl, hrefl _, hI⟩
                go_simp
              · refine Reg.StepAt.plain (i := 2) rfl ?_
                intro L ev w hI hk hp hA
                have e14 : ev (.tmp 14) = .int .i64 (ix : Int) := hA.oldNone 14 (by kernel_rfl)
                have hcc := hA.const
                clear hA hp
                refine Reg.out_value (v := .int .i64 (ix : Int)) ?_ ⟨rfl, hrefl _, hI⟩
                go_simp
              · refine Reg.StepAt.plain (i := 3) rfl ?_
                intro L ev w hI hk hp hA
                have e117 : ev (.tmp 117) = .slice (some ⟨gr, 0, none⟩) len cr := hA.val 1 _ 117 rfl (hp ⟨1, .data⟩ (by simp) rfl) rfl
                have e118 : ev (.tmp 118) = .int .i64 (ix : Int) := hA.val 2 _ 118 rfl (hp ⟨2, .data⟩ (by simp) rfl) rfl
                have hcc := hA.const
                clear hA hp
                refine Reg.out_value (v := .slice (some ⟨gr, 0, none⟩) ix cr) ?_ ⟨rfl, hrefl _, hI⟩
                go_simp
              · refine Reg.StepAt.plain (i := 4) rfl ?_
                intro L ev w hI hk hp hA
                have e116 : (fun v w => ∃ g, v = .slice (some ⟨g, 0, none⟩) 0 0 ∧ Flat 2 w g 0 0 [] ∧ lo3 ≤ g) (ev (.tmp 116)) w := hA.val 0 _ 116 rfl (hp ⟨0, .data⟩ (by simp) rfl) rfl
                have e119 : ev (.tmp 119) = .slice (some ⟨gr, 0, none⟩) ix cr := hA.val 3 _ 119 rfl (hp ⟨3, .data⟩ (by simp) rfl) rfl
                have hcc := hA.const
                clear hA hp
                obtain ⟨g, e116, hFg, hlg⟩ := e116
                obtain ⟨g', c', w', hr, hF', hb', hg'⟩ := fresh_append plainR 52 w g hFg (.slice (some ⟨gr, 0, none⟩) ix cr) ix (flatR (T.take ix)) (hSa.out w hI) (by omega)
                refine Reg.out_new (v := .slice (some ⟨g', 0, none⟩) ix c') (w' := w') ?_ ⟨⟨g', c', rfl, hF', by have h1 : W2.heap.size ≤ w.heap.size := hI.size; have h2 := HLO3.out; omega⟩, hb', Reg.Keeps.trans hI hb'⟩
                clear hFg hF' hb' hg'
                simp [execOp, resolve, invoke, builtin, e116, e119, hr, Result.andThen]
              · refine Reg.StepAt.plain (i := 5) rfl ?_
                intro L ev w hI hk hp hA
                have e8 : ev (.tmp 8) = .slice (some ⟨gr, 0, none⟩) len cr := hA.oldBut 10 _ 8 (by kernel_rfl) rfl ⟨5, .phase⟩ (by simp) rfl hk
                have hcc := hA.const
                clear hA hp
                refine Reg.out_value (v := .slice (some ⟨gr, 0, none⟩) len cr) ?_ ⟨rfl, hrefl _, hI⟩
                go_simp
              · refine Reg.StepAt.plain (i := 6) rfl ?_
                intro L ev w hI hk hp hA
                have e14 : ev (.tmp 14) = .int .i64 (ix : Int) := hA.oldNone 14 (by kernel_rfl)
                have hcc := hA.const
                clear hA hp
                refine Reg.out_value (v := .int .i64 (ix : Int)) ?_ ⟨rfl, hrefl _, hI⟩
                go_simp
              · refine Reg.StepAt.plain (i := 7) rfl ?_
                intro L ev w hI hk hp hA
                have e122 : ev (.tmp 122) = .int .i64 (ix : Int) := hA.val 6 _ 122 rfl (hp ⟨6, .data⟩ (by simp) rfl) rfl
                have hcc := hA.const
                clear hA hp
                refine Reg.out_value (v := .int .i64 (jx : Int)) ?_ ⟨rfl, hrefl _, hI⟩
                (go_simp; exact wrapS (by omega))
              · refine Reg.StepAt.plain (i := 8) rfl ?_
                intro L ev w hI hk hp hA
                have e121 : ev (.tmp 121) = .slice (some ⟨gr, 0, none⟩) len cr := hA.val 5 _ 121 rfl (hp ⟨5, .data⟩ (by simp) rfl) rfl
                have e123 : ev (.tmp 123) = .int .i64 (jx : Int) := hA.val 7 _ 123 rfl (hp ⟨7, .data⟩ (by simp) rfl) rfl
                have hcc := hA.const
                clear hA hp
                refine Reg.out_value (v := .slice (some ⟨gr, o8, none⟩) (len - jx) (cr - jx)) ?_ ⟨rfl, hrefl _, hI⟩
                (have h8 := HO8.out; by_cases hcj : cr = jx; (rw [if_pos hcj] at h8; subst h8; go_simp); (rw [if_neg hcj] at h8; subst h8; go_simp))
              intro act wz hI hF
              have g116 : (fun v w => ∃ g, v = .slice (some ⟨g, 0, none⟩) 0 0 ∧ Flat 2 w g 0 0 [] ∧ lo3 ≤ g) (act.eval (.tmp 116)) wz := hF.val 0 _ 116 rfl (by kernel_rfl) rfl
              have g117 : act.eval (.tmp 117) = .slice (some ⟨gr, 0, none⟩) len cr := hF.val 1 _ 117 rfl (by kernel_rfl) rfl
              have g118 : act.eval (.tmp 118) = .int .i64 (ix : Int) := hF.val 2 _ 118 rfl (by kernel_rfl) rfl
              have g119 : act.eval (.tmp 119) = .slice (some ⟨gr, 0, none⟩) ix cr := hF.val 3 _ 119 rfl (by kernel_rfl) rfl
              have g120 : (fun v w => ∃ g c, v = .slice (some ⟨g, 0, none⟩) ix c ∧ Flat 2 w g c ix (flatR (T.take ix)) ∧ lo3 ≤ g) (act.eval (.tmp 120)) wz := hF.val 4 _ 120 rfl (by kernel_rfl) rfl
              have g121 : act.eval (.tmp 121) = .slice (some ⟨gr, 0, none⟩) len cr := hF.val 5 _ 121 rfl (by kernel_rfl) rfl
              have g122 : act.eval (.tmp 122) = .int .i64 (ix : Int) := hF.val 6 _ 122 rfl (by kernel_rfl) rfl
              have g123 : act.eval (.tmp 123) = .int .i64 (jx : Int) := hF.val 7 _ 123 rfl (by kernel_rfl) rfl
              have g124 : act.eval (.tmp 124) = .slice (some ⟨gr, o8, none⟩) (len - jx) (cr - jx) := hF.val 8 _ 124 rfl (by kernel_rfl) rfl
              have hact := hF.actHead [116, 117, 118, 119, 120, 121, 122, 123, 124] (by kernel_rfl)
              clear hF
              simp only [List.foldl_cons, List.foldl_nil] at hact
              rw [g117, g118, g119, g121, g122, g123, g124] at hact
              clear g117 g118 g119 g121 g122 g123 g124
              generalize act.eval (.tmp 116) = u116 at hact g116
              generalize act.eval (.tmp 120) = u120 at hact g120
              simp only [List.setIfInBounds_toArray, List.set_cons_succ, List.set_cons_zero] at hact
              subst hact
              simp only [List.drop_succ_cons, List.drop_zero]
              obtain ⟨g4, c4, rfl, hF4, hl4⟩ := g120
              have hIz : Below W2.heap.size W2 wz := hI
              clear hI
              refine wpList_flat plainR wz rfl (.tmp 120) (.tmp 124) rfl g4 c4 ix (flatR (T.take ix)) rfl hF4 _ rfl (len - jx) (flatR (T.drop jx)) (hSb.out wz hIz) (by have := HTL.out; omega) ?_
              intro g5 c5 w5 hF5 hB5 hg5
              have HZ := hidq (show KA w sb mb m (i + 1) g5 c5 T' w5 ∧ ix + (len - jx) = T'.length from by
                obtain ⟨_, _, her, hT', _, _⟩ := HIX.out
                have hj1 := HJX.out
                have hle := hlen.out
                obtain ⟨hx1, hx2⟩ := HXL.out
                have hlo := HLO3.out
                have hT2 : T' = T.take ix ++ T.drop jx := by rw [hT', her, hj1]
                have hln : T'.length = ix + (len - jx) := by rw [hT2, List.length_append, List.length_take, List.length_drop]; omega
                have hf : flatR T' = flatR (T.take ix) ++ flatR (T.drop jx) := by rw [hT2, flatR_append]
                rw [← hln, ← hf] at hF5
                have s9 := HB9.out.2.size
                have s2 := hBW.out.size
                have sz := hIz.size
                refine ⟨HO.out w5 T' g5 c5 ?_ rfl (.inr (by omega)) hF5, hln.symm⟩
                refine (But.of_below HB9.out.2).then (((But.of_below (S := fun j => j = g4) hBW.out).trans (But.of_below hIz)).trans hB5) (fun j hj e => by omega))
              clear hF5 hB5 hg5 hF4 hl4 hIz
              go_wp2
              go_roundw
              case rel => exact ⟨i + 1, _, g5, c5, _, rfl, by go_num, by have := HLT.out; omega, hidq HZ.out.2, hidq HZ.out.1⟩
              case measure => simp [intOf]; omega
        · have hkI : (len : Int) < (k : Int) := by omega
          have hkcI : (len : Int) ≤ (cr : Int) := by omega
          have HMK := hidq hmk
          clear hmk
          go_wp2_with fail
          have hmk := HMK.out
          clear HMK
          subst hmk
          obtain ⟨hA9, hb9, hab, hW9⟩ := HA9.out
          rw [hW9, hab]
          obtain ⟨hiz, hin, her, hT', hix, hml, _, _⟩ := HZ0.out
          have HF9 := hidq (show Flat 2 W9 gr cr m (flatR T) from HF.out.but (S := fun _ => False) (But.of_below hb9) id)
          have HIX := hidq (And.intro hiz (And.intro hin (And.intro her (And.intro hT' (And.intro hml hix)))))
          have HB9 := hidq (And.intro hA9 hb9)
          clear hA9 hb9 hab hW9 hiz hin her hT' HZ0 HA9 hik HF hlp hlpI hkl hkI hkcI hcr 
          go_loopw [14, 97] (fun s14 s97 wr => ∃ j : Nat, s97 = .int .i64 (j : Int) ∧ j ≤ m ∧ s14 = (if ix < j then .int .i64 (ix : Int) else .int .i64 (-1)) ∧ Hid (Below W9.heap.size W9 wr)) (fun _ s97 _ => m - (intOf s97).toNat)
          case atStart => exact ⟨0, rfl, Nat.zero_le _, by rw [if_neg (Nat.not_lt_zero _)], hidq (Below.refl _ _)⟩
          case round =>
            obtain ⟨W2, hw2⟩ : ∃ W2, W2 = wr := ⟨_, rfl⟩
            subst hw2
            rename_i s14 s97
            obtain ⟨j, rfl, hjm, h14, hBW⟩ := hrel
            by_cases hj : j < m
            · have hjT : j < T.length := by have := hlen.out; omega
              have hjI : (j : Int) < (m : Int) := by omega
              have hjL : j < m := by omega
              have hjLI : (j : Int) < (m : Int) := by omega
              have hjs : (j : Int) ≤ 100 := by have := HTL.out; omega
              obtain ⟨y, hy⟩ : ∃ y, T[j] = y := ⟨_, rfl⟩
              obtain ⟨yq, hyq⟩ : ∃ yq, ni y.b = yq := ⟨_, rfl⟩
              obtain ⟨yv, hyv⟩ : ∃ yv, y.v = yv := ⟨_, rfl⟩
              have hg2 := flatR_get T j hjT
              rw [hy, hyq, hyv] at hg2
              have hgl := HF9.out.lt
              have FC2 := hidq (fun W (hW : Below W2.heap.size W2 W) => (show W.cell? ⟨ab, 1, none⟩ = some (.float .f64 z.b) ∧ W.cell? ⟨ab, 2, none⟩ = some (.int .i64 z.v) ∧ W.cell? ⟨gr, j * 2, none⟩ = some (.int .u64 yq) ∧ W.cell? ⟨gr, j * 2 + 1, none⟩ = some (.int .i64 yv) from by
                have hT := hBW.out.trans (hW.mono hBW.out.size)
                have q := HB9.out.1.below hT
                exact ⟨(q.get 1 _ rfl).1, (q.get 2 _ rfl).1, (hT.cell (p := ⟨gr, j * 2, none⟩) hgl).trans (HF9.out.cell _ _ hg2.1), (hT.cell (p := ⟨gr, j * 2 + 1, none⟩) hgl).trans (HF9.out.cell _ _ hg2.2)⟩))
              have hyT : T[j]? = some y := by rw [List.getElem?_eq_getElem hjT, hy]
              rcases Nat.lt_trichotomy j ix with hlo | heq | hhi
              · rw [if_neg (by omega)] at h14
                subst h14
                have hIs := hidq (fun W => (show Calls Try.prog 14 #[.agg #[.float .f64 z.b, .int .i64 z.v], .agg #[.int .u64 yq, .int .i64 yv]] W fun e w' => e = .returned (.int .i64 (-1)) ∧ Below W.heap.size W w' from by
                  have := is_any z.b z.v yq yv W
                  rw [← hyq, ← hyv, isV_ne (fun e => HIX.out.2.1 j hlo (by rw [hyT, e])), hyq, hyv] at this
                  exact this))
                have HJ := hidq (And.intro hj hlo)
                clear hyT hg2 hgl hy hyq hyv hjT hlo hj
                go_wp2_with fail
                have hrefl : ∀ w : World, Reg.Keeps w w := Reg.Keeps.refl
                refine Reg.wp_region_props (Reg.ofList (kal25lo ab gr m cr j ix z.b z.v yq yv)) Reg.Keeps (fun _ w => Reg.Keeps W2 w) (by kernel_rfl) (by kernel_rfl) (Reg.AllKept.at _ (kal25lo_kept ab gr m cr j ix z.b z.v yq yv)) hrefl (Reg.Keeps.drewN (Reg.Keeps.refl _) 1) ⟨?_, ?_, ?_, ?_, ?_, ?_, ?_, ?_, ?_, ?_, ?_, ?_, trivial⟩ ?_
                · refine Reg.StepAt.plain (i := 0) rfl ?_
                  intro L ev w hI hk hp hA
                  have e14 : ev (.tmp 14) = .int .i64 (-1) := hA.oldNone 14 (by kernel_rfl)
                  have hcc := hA.const
                  clear hA hp
                  refine Reg.out_value (v := .int .i64 (-1)) ?_ ⟨rfl, hrefl _, hI⟩
                  go_simp
                · refine Reg.StepAt.plain (i := 1) rfl ?_
                  intro L ev w hI hk hp hA
                  have e100 : ev (.tmp 100) = .int .i64 (-1) := hA.val 0 _ 100 rfl (hp ⟨0, .data⟩ (by simp) rfl) rfl
                  have hcc := hA.const
                  clear hA hp
                  refine Reg.out_value (v := .bool true) ?_ ⟨rfl, hrefl _, hI⟩
                  go_simp
                · refine Reg.StepAt.plain (i := 2) rfl ?_
                  intro L ev w hI hk hp hA
                  have e101 : ev (.tmp 101) = .bool true := hA.val 1 _ 101 rfl (hp ⟨1, .data⟩ (by simp) rfl) rfl
                  have hcc := hA.const
                  clear hA hp
                  refine Reg.out_value (v := .bool true) ?_ ⟨rfl, hrefl _, hI⟩
                  go_simp
                · refine Reg.StepAt.guarded (i := 3) rfl ?_
                  intro L ev w hI hk hp hA
                  have e12 : ev (.tmp 12) = .pointer (some ⟨ab, 0, none⟩) := hA.oldNone 12 (by kernel_rfl)
                  have eg : ev (.tmp 102) = .bool true := hA.val 2 _ 102 rfl (hp ⟨2, .guard⟩ (by simp) rfl) rfl
                  refine ⟨_, 102, true, rfl, rfl, eg, ?_⟩
                  rw [if_pos rfl]
                  have hcc := hA.const
                  clear hA hp
                  refine Reg.out_value (v := .pointer (some ⟨ab, 1, none⟩)) ?_ ⟨rfl, hrefl _, hI⟩
                  go_simp
                · refine Reg.StepAt.guarded (i := 4) rfl ?_
                  intro L ev w hI hk hp hA
                  have e103 : ev (.tmp 103) = .pointer (some ⟨ab, 1, none⟩) := hA.val 3 _ 103 rfl (hp ⟨3, .data⟩ (by simp) rfl) rfl
                  have eg : ev (.tmp 102) = .bool true := hA.val 2 _ 102 rfl (hp ⟨2, .guard⟩ (by simp) rfl) rfl
                  refine ⟨_, 102, true, rfl, rfl, eg, ?_⟩
                  rw [if_pos rfl]
                  have hcc := hA.const
                  clear hA hp
                  obtain ⟨f0, f1, f2, f3⟩ := FC2.out w hI
                  refine Reg.out_value (v := .agg #[.float .f64 z.b, .int .i64 z.v]) ?_ ⟨rfl, hrefl _, hI⟩
                  go_simp
                · refine Reg.StepAt.guarded (i := 5) rfl ?_
                  intro L ev w hI hk hp hA
                  have e8 : ev (.tmp 8) = .slice (some ⟨gr, 0, none⟩) m cr := hA.oldNone 8 (by kernel_rfl)
                  have eg : ev (.tmp 102) = .bool true := hA.val 2 _ 102 rfl (hp ⟨2, .guard⟩ (by simp) rfl) rfl
                  refine ⟨_, 102, true, rfl, rfl, eg, ?_⟩
                  rw [if_pos rfl]
                  have hcc := hA.const
                  clear hA hp
                  refine Reg.out_value (v := .slice (some ⟨gr, 0, none⟩) m cr) ?_ ⟨rfl, hrefl _, hI⟩
                  go_simp
                · refine Reg.StepAt.guarded (i := 6) rfl ?_
                  intro L ev w hI hk hp hA
                  have e15 : ev (.tmp 15) = .int .i64 (j : Int) := hA.oldNone 15 (by kernel_rfl)
                  have eg : ev (.tmp 102) = .bool true := hA.val 2 _ 102 rfl (hp ⟨2, .guard⟩ (by simp) rfl) rfl
                  refine ⟨_, 102, true, rfl, rfl, eg, ?_⟩
                  rw [if_pos rfl]
                  have hcc := hA.const
                  clear hA hp
                  refine Reg.out_value (v := .int .i64 (j : Int)) ?_ ⟨rfl, hrefl _, hI⟩
                  go_simp
                · refine Reg.StepAt.guarded (i := 7) rfl ?_
                  intro L ev w hI hk hp hA
                  have e105 : ev (.tmp 105) = .slice (some ⟨gr, 0, none⟩) m cr := hA.val 5 _ 105 rfl (hp ⟨5, .data⟩ (by simp) rfl) rfl
                  have e106 : ev (.tmp 106) = .int .i64 (j : Int) := hA.val 6 _ 106 rfl (hp ⟨6, .data⟩ (by simp) rfl) rfl
                  have eg : ev (.tmp 102) = .bool true := hA.val 2 _ 102 rfl (hp ⟨2, .guard⟩ (by simp) rfl) rfl
                  refine ⟨_, 102, true, rfl, rfl, eg, ?_⟩
                  rw [if_pos rfl]
                  have hcc := hA.const
                  clear hA hp
                  refine Reg.out_value (v := .pointer (some ⟨gr, j * 2, none⟩)) ?_ ⟨rfl, hrefl _, hI⟩
                  go_simp
                · refine Reg.StepAt.guarded (i := 8) rfl ?_
                  intro L ev w hI hk hp hA
                  have e107 : ev (.tmp 107) = .pointer (some ⟨gr, j * 2, none⟩) := hA.val 7 _ 107 rfl (hp ⟨7, .data⟩ (by simp) rfl) rfl
                  have eg : ev (.tmp 102) = .bool true := hA.val 2 _ 102 rfl (hp ⟨2, .guard⟩ (by simp) rfl) rfl
                  refine ⟨_, 102, true, rfl, rfl, eg, ?_⟩
                  rw [if_pos rfl]
                  have hcc := hA.const
                  clear hA hp
                  obtain ⟨f0, f1, f2, f3⟩ := FC2.out w hI
                  refine Reg.out_value (v := .agg #[.int .u64 yq, .int .i64 yv]) ?_ ⟨rfl, hrefl _, hI⟩
                  go_simp
                · refine Reg.StepAt.guarded (i := 9) rfl ?_
                  intro L ev w hI hk hp hA
                  have e104 : ev (.tmp 104) = .agg #[.float .f64 z.b, .int .i64 z.v] := hA.val 4 _ 104 rfl (hp ⟨4, .data⟩ (by simp) rfl) rfl
                  have e108 : ev (.tmp 108) = .agg #[.int .u64 yq, .int .i64 yv] := hA.val 8 _ 108 rfl (hp ⟨8, .data⟩ (by simp) rfl) rfl
                  have eg : ev (.tmp 102) = .bool true := hA.val 2 _ 102 rfl (hp ⟨2, .chain⟩ (by simp) rfl) rfl
                  refine ⟨_, 102, true, rfl, rfl, eg, ?_⟩
                  rw [if_pos rfl]
                  have hcc := hA.const
                  have hcf := hA.func
                  clear hA hp
                  refine Reg.out_call (f := 14) (args := #[.agg #[.float .f64 z.b, .int .i64 z.v], .agg #[.int .u64 yq, .int .i64 yv]]) (w0 := w) ?_ ?_
                  · go_simp
                  refine (hIs.out w).mono ?_
                  rintro e w' ⟨rfl, hb'⟩
                  exact ⟨_, rfl, rfl, hb', Reg.Keeps.trans hI hb'⟩
                · refine Reg.StepAt.guarded (i := 10) rfl ?_
                  intro L ev w hI hk hp hA
                  have e109 : ev (.tmp 109) = .int .i64 (-1) := hA.val 9 _ 109 rfl (hp ⟨9, .data⟩ (by simp) rfl) rfl
                  have eg : ev (.tmp 102) = .bool true := hA.val 2 _ 102 rfl (hp ⟨2, .guard⟩ (by simp) rfl) rfl
                  refine ⟨_, 102, true, rfl, rfl, eg, ?_⟩
                  rw [if_pos rfl]
                  have hcc := hA.const
                  clear hA hp
                  refine Reg.out_value (v := .bool false) ?_ ⟨rfl, hrefl _, hI⟩
                  go_simp
                · refine Reg.StepAt.plain (i := 11) rfl ?_
                  intro L ev w hI hk hp hA
                  have e102 : ev (.tmp 102) = .bool true := hA.val 2 _ 102 rfl (hp ⟨2, .data⟩ (by simp) rfl) rfl
                  have e110 : ev (.tmp 110) = .bool false := hA.val 10 _ 110 rfl (hp ⟨10, .data⟩ (by simp) rfl) rfl
                  have hcc := hA.const
                  clear hA hp
                  refine Reg.out_value (v := .bool false) ?_ ⟨rfl, hrefl _, hI⟩
                  go_simp
                intro L act wz hall hI hF
                have g100 : act.eval (.tmp 100) = .int .i64 (-1) := hF.val 0 _ 100 rfl (hall 0 (by simp)) rfl
                have g101 : act.eval (.tmp 101) = .bool true := hF.val 1 _ 101 rfl (hall 1 (by simp)) rfl
                have g102 : act.eval (.tmp 102) = .bool true := hF.val 2 _ 102 rfl (hall 2 (by simp)) rfl
                have g103 : act.eval (.tmp 103) = .pointer (some ⟨ab, 1, none⟩) := hF.val 3 _ 103 rfl (hall 3 (by simp)) rfl
                have g104 : act.eval (.tmp 104) = .agg #[.float .f64 z.b, .int .i64 z.v] := hF.val 4 _ 104 rfl (hall 4 (by simp)) rfl
                have g105 : act.eval (.tmp 105) = .slice (some ⟨gr, 0, none⟩) m cr := hF.val 5 _ 105 rfl (hall 5 (by simp)) rfl
                have g106 : act.eval (.tmp 106) = .int .i64 (j : Int) := hF.val 6 _ 106 rfl (hall 6 (by simp)) rfl
                have g107 : act.eval (.tmp 107) = .pointer (some ⟨gr, j * 2, none⟩) := hF.val 7 _ 107 rfl (hall 7 (by simp)) rfl
                have g108 : act.eval (.tmp 108) = .agg #[.int .u64 yq, .int .i64 yv] := hF.val 8 _ 108 rfl (hall 8 (by simp)) rfl
                have g109 : act.eval (.tmp 109) = .int .i64 (-1) := hF.val 9 _ 109 rfl (hall 9 (by simp)) rfl
                have g110 : act.eval (.tmp 110) = .bool false := hF.val 10 _ 110 rfl (hall 10 (by simp)) rfl
                have g111 : act.eval (.tmp 111) = .bool false := hF.val 11 _ 111 rfl (hall 11 (by simp)) rfl
                have hact := hF.act [100, 101, 102, 103, 104, 105, 106, 107, 108, 109, 110, 111] (by kernel_rfl)
                clear hF hall
                simp only [List.foldl_cons, List.foldl_nil] at hact
                rw [g100, g101, g102, g103, g104, g105, g106, g107, g108, g109, g110, g111] at hact
                clear g100 g101 g102 g103 g104 g105 g106 g107 g108 g109 g110 g111
                simp only [List.setIfInBounds_toArray, List.set_cons_succ, List.set_cons_zero] at hact
                subst hact
                have HI := hidq (show Below W9.heap.size W9 wz from hBW.out.trans ((show Below W2.heap.size W2 wz from hI).mono hBW.out.size))
                clear hI hBW
                go_wp2
                go_roundw
                case rel => exact ⟨j + 1, by go_num, by have := HJ.out; omega, by rw [if_neg (by have := HJ.out; omega)], HI⟩
                case measure => simp [intOf]; have := HJ.out; omega
              · subst heq
                rw [if_neg (by omega)] at h14
                subst h14
                have hIs := hidq (fun W => (show Calls Try.prog 14 #[.agg #[.float .f64 z.b, .int .i64 z.v], .agg #[.int .u64 yq, .int .i64 yv]] W fun e w' => e = .returned (.int .i64 0) ∧ Below W.heap.size W w' from by
                  have := is_any z.b z.v yq yv W
                  have hzy : y = z := by have h1 := HIX.out.1; rw [hyT] at h1; injection h1
                  rw [← hyq, ← hyv, hzy, isV_same z] at this
                  rw [← hyq, ← hyv, hzy]
                  exact this))
                have HJ := hidq hj
                clear hyT hg2 hgl hy hyq hyv hjT hj
                go_wp2_with fail
                have hrefl : ∀ w : World, Reg.Keeps w w := Reg.Keeps.refl
                refine Reg.wp_region_props (Reg.ofList (kal25at ab gr m cr j j z.b z.v yq yv)) Reg.Keeps (fun _ w => Reg.Keeps W2 w) (by kernel_rfl) (by kernel_rfl) (Reg.AllKept.at _ (kal25at_kept ab gr m cr j j z.b z.v yq yv)) hrefl (Reg.Keeps.drewN (Reg.Keeps.refl _) 1) ⟨?_, ?_, ?_, ?_, ?_, ?_, ?_, ?_, ?_, ?_, ?_, ?_, trivial⟩ ?_
                · refine Reg.StepAt.plain (i := 0) rfl ?_
                  intro L ev w hI hk hp hA
                  have e14 : ev (.tmp 14) = .int .i64 (-1) := hA.oldNone 14 (by kernel_rfl)
                  have hcc := hA.const
                  clear hA hp
                  refine Reg.out_value (v := .int .i64 (-1)) ?_ ⟨rfl, hrefl _, hI⟩
                  go_simp
                · refine Reg.StepAt.plain (i := 1) rfl ?_
                  intro L ev w hI hk hp hA
                  have e100 : ev (.tmp 100) = .int .i64 (-1) := hA.val 0 _ 100 rfl (hp ⟨0, .data⟩ (by simp) rfl) rfl
                  have hcc := hA.const
                  clear hA hp
                  refine Reg.out_value (v := .bool true) ?_ ⟨rfl, hrefl _, hI⟩
                  go_simp
                · refine Reg.StepAt.plain (i := 2) rfl ?_
                  intro L ev w hI hk hp hA
                  have e101 : ev (.tmp 101) = .bool true := hA.val 1 _ 101 rfl (hp ⟨1, .data⟩ (by simp) rfl) rfl
                  have hcc := hA.const
                  clear hA hp
                  refine Reg.out_value (v := .bool true) ?_ ⟨rfl, hrefl _, hI⟩
                  go_simp
                · refine Reg.StepAt.guarded (i := 3) rfl ?_
                  intro L ev w hI hk hp hA
                  have e12 : ev (.tmp 12) = .pointer (some ⟨ab, 0, none⟩) := hA.oldNone 12 (by kernel_rfl)
                  have eg : ev (.tmp 102) = .bool true := hA.val 2 _ 102 rfl (hp ⟨2, .guard⟩ (by simp) rfl) rfl
                  refine ⟨_, 102, true, rfl, rfl, eg, ?_⟩
                  rw [if_pos rfl]
                  have hcc := hA.const
                  clear hA hp
                  refine Reg.out_value (v := .pointer (some ⟨ab, 1, none⟩)) ?_ ⟨rfl, hrefl _, hI⟩
                  go_simp
                · refine Reg.StepAt.guarded (i := 4) rfl ?_
                  intro L ev w hI hk hp hA
                  have e103 : ev (.tmp 103) = .pointer (some ⟨ab, 1, none⟩) := hA.val 3 _ 103 rfl (hp ⟨3, .data⟩ (by simp) rfl) rfl
                  have eg : ev (.tmp 102) = .bool true := hA.val 2 _ 102 rfl (hp ⟨2, .guard⟩ (by simp) rfl) rfl
                  refine ⟨_, 102, true, rfl, rfl, eg, ?_⟩
                  rw [if_pos rfl]
                  have hcc := hA.const
                  clear hA hp
                  obtain ⟨f0, f1, f2, f3⟩ := FC2.out w hI
                  refine Reg.out_value (v := .agg #[.float .f64 z.b, .int .i64 z.v]) ?_ ⟨rfl, hrefl _, hI⟩
                  go_simp
                · refine Reg.StepAt.guarded (i := 5) rfl ?_
                  intro L ev w hI hk hp hA
                  have e8 : ev (.tmp 8) = .slice (some ⟨gr, 0, none⟩) m cr := hA.oldNone 8 (by kernel_rfl)
                  have eg : ev (.tmp 102) = .bool true := hA.val 2 _ 102 rfl (hp ⟨2, .guard⟩ (by simp) rfl) rfl
                  refine ⟨_, 102, true, rfl, rfl, eg, ?_⟩
                  rw [if_pos rfl]
                  have hcc := hA.const
                  clear hA hp
                  refine Reg.out_value (v := .slice (some ⟨gr, 0, none⟩) m cr) ?_ ⟨rfl, hrefl _, hI⟩
                  go_simp
                · refine Reg.StepAt.guarded (i := 6) rfl ?_
                  intro L ev w hI hk hp hA
                  have e15 : ev (.tmp 15) = .int .i64 (j : Int) := hA.oldNone 15 (by kernel_rfl)
                  have eg : ev (.tmp 102) = .bool true := hA.val 2 _ 102 rfl (hp ⟨2, .guard⟩ (by simp) rfl) rfl
                  refine ⟨_, 102, true, rfl, rfl, eg, ?_⟩
                  rw [if_pos rfl]
                  have hcc := hA.const
                  clear hA hp
                  refine Reg.out_value (v := .int .i64 (j : Int)) ?_ ⟨rfl, hrefl _, hI⟩
                  go_simp
                · refine Reg.StepAt.guarded (i := 7) rfl ?_
                  intro L ev w hI hk hp hA
                  have e105 : ev (.tmp 105) = .slice (some ⟨gr, 0, none⟩) m cr := hA.val 5 _ 105 rfl (hp ⟨5, .data⟩ (by simp) rfl) rfl
                  have e106 : ev (.tmp 106) = .int .i64 (j : Int) := hA.val 6 _ 106 rfl (hp ⟨6, .data⟩ (by simp) rfl) rfl
                  have eg : ev (.tmp 102) = .bool true := hA.val 2 _ 102 rfl (hp ⟨2, .guard⟩ (by simp) rfl) rfl
                  refine ⟨_, 102, true, rfl, rfl, eg, ?_⟩
                  rw [if_pos rfl]
                  have hcc := hA.const
                  clear hA hp
                  refine Reg.out_value (v := .pointer (some ⟨gr, j * 2, none⟩)) ?_ ⟨rfl, hrefl _, hI⟩
                  go_simp
                · refine Reg.StepAt.guarded (i := 8) rfl ?_
                  intro L ev w hI hk hp hA
                  have e107 : ev (.tmp 107) = .pointer (some ⟨gr, j * 2, none⟩) := hA.val 7 _ 107 rfl (hp ⟨7, .data⟩ (by simp) rfl) rfl
                  have eg : ev (.tmp 102) = .bool true := hA.val 2 _ 102 rfl (hp ⟨2, .guard⟩ (by simp) rfl) rfl
                  refine ⟨_, 102, true, rfl, rfl, eg, ?_⟩
                  rw [if_pos rfl]
                  have hcc := hA.const
                  clear hA hp
                  obtain ⟨f0, f1, f2, f3⟩ := FC2.out w hI
                  refine Reg.out_value (v := .agg #[.int .u64 yq, .int .i64 yv]) ?_ ⟨rfl, hrefl _, hI⟩
                  go_simp
                · refine Reg.StepAt.guarded (i := 9) rfl ?_
                  intro L ev w hI hk hp hA
                  have e104 : ev (.tmp 104) = .agg #[.float .f64 z.b, .int .i64 z.v] := hA.val 4 _ 104 rfl (hp ⟨4, .data⟩ (by simp) rfl) rfl
                  have e108 : ev (.tmp 108) = .agg #[.int .u64 yq, .int .i64 yv] := hA.val 8 _ 108 rfl (hp ⟨8, .data⟩ (by simp) rfl) rfl
                  have eg : ev (.tmp 102) = .bool true := hA.val 2 _ 102 rfl (hp ⟨2, .chain⟩ (by simp) rfl) rfl
                  refine ⟨_, 102, true, rfl, rfl, eg, ?_⟩
                  rw [if_pos rfl]
                  have hcc := hA.const
                  have hcf := hA.func
                  clear hA hp
                  refine Reg.out_call (f := 14) (args := #[.agg #[.float .f64 z.b, .int .i64 z.v], .agg #[.int .u64 yq, .int .i64 yv]]) (w0 := w) ?_ ?_
                  · go_simp
                  refine (hIs.out w).mono ?_
                  rintro e w' ⟨rfl, hb'⟩
                  exact ⟨_, rfl, rfl, hb', Reg.Keeps.trans hI hb'⟩
                · refine Reg.StepAt.guarded (i := 10) rfl ?_
                  intro L ev w hI hk hp hA
                  have e109 : ev (.tmp 109) = .int .i64 (0) := hA.val 9 _ 109 rfl (hp ⟨9, .data⟩ (by simp) rfl) rfl
                  have eg : ev (.tmp 102) = .bool true := hA.val 2 _ 102 rfl (hp ⟨2, .guard⟩ (by simp) rfl) rfl
                  refine ⟨_, 102, true, rfl, rfl, eg, ?_⟩
                  rw [if_pos rfl]
                  have hcc := hA.const
                  clear hA hp
                  refine Reg.out_value (v := .bool true) ?_ ⟨rfl, hrefl _, hI⟩
                  go_simp
                · refine Reg.StepAt.plain (i := 11) rfl ?_
                  intro L ev w hI hk hp hA
                  have e102 : ev (.tmp 102) = .bool true := hA.val 2 _ 102 rfl (hp ⟨2, .data⟩ (by simp) rfl) rfl
                  have e110 : ev (.tmp 110) = .bool true := hA.val 10 _ 110 rfl (hp ⟨10, .data⟩ (by simp) rfl) rfl
                  have hcc := hA.const
                  clear hA hp
                  refine Reg.out_value (v := .bool true) ?_ ⟨rfl, hrefl _, hI⟩
                  go_simp
                intro L act wz hall hI hF
                have g100 : act.eval (.tmp 100) = .int .i64 (-1) := hF.val 0 _ 100 rfl (hall 0 (by simp)) rfl
                have g101 : act.eval (.tmp 101) = .bool true := hF.val 1 _ 101 rfl (hall 1 (by simp)) rfl
                have g102 : act.eval (.tmp 102) = .bool true := hF.val 2 _ 102 rfl (hall 2 (by simp)) rfl
                have g103 : act.eval (.tmp 103) = .pointer (some ⟨ab, 1, none⟩) := hF.val 3 _ 103 rfl (hall 3 (by simp)) rfl
                have g104 : act.eval (.tmp 104) = .agg #[.float .f64 z.b, .int .i64 z.v] := hF.val 4 _ 104 rfl (hall 4 (by simp)) rfl
                have g105 : act.eval (.tmp 105) = .slice (some ⟨gr, 0, none⟩) m cr := hF.val 5 _ 105 rfl (hall 5 (by simp)) rfl
                have g106 : act.eval (.tmp 106) = .int .i64 (j : Int) := hF.val 6 _ 106 rfl (hall 6 (by simp)) rfl
                have g107 : act.eval (.tmp 107) = .pointer (some ⟨gr, j * 2, none⟩) := hF.val 7 _ 107 rfl (hall 7 (by simp)) rfl
                have g108 : act.eval (.tmp 108) = .agg #[.int .u64 yq, .int .i64 yv] := hF.val 8 _ 108 rfl (hall 8 (by simp)) rfl
                have g109 : act.eval (.tmp 109) = .int .i64 (0) := hF.val 9 _ 109 rfl (hall 9 (by simp)) rfl
                have g110 : act.eval (.tmp 110) = .bool true := hF.val 10 _ 110 rfl (hall 10 (by simp)) rfl
                have g111 : act.eval (.tmp 111) = .bool true := hF.val 11 _ 111 rfl (hall 11 (by simp)) rfl
                have hact := hF.act [100, 101, 102, 103, 104, 105, 106, 107, 108, 109, 110, 111] (by kernel_rfl)
                clear hF hall
                simp only [List.foldl_cons, List.foldl_nil] at hact
                rw [g100, g101, g102, g103, g104, g105, g106, g107, g108, g109, g110, g111] at hact
                clear g100 g101 g102 g103 g104 g105 g106 g107 g108 g109 g110 g111
                simp only [List.setIfInBounds_toArray, List.set_cons_succ, List.set_cons_zero] at hact
                subst hact
                have HI := hidq (show Below W9.heap.size W9 wz from hBW.out.trans ((show Below W2.heap.size W2 wz from hI).mono hBW.out.size))
                clear hI hBW
                go_wp2
                go_roundw
                case rel => exact ⟨j + 1, by go_num, by have := HJ.out; omega, by rw [if_pos (by omega)], HI⟩
                case measure => simp [intOf]; have := HJ.out; omega
              · rw [if_pos hhi] at h14
                subst h14
                have hix0 : decide ((ix : Int) < 0) = false := decide_eq_false (by omega)
                have HJ := hidq (And.intro hj hhi)
                clear hyT hg2 hgl hy hyq hyv hjT hhi hj
                go_wp2_with fail
                have hrefl : ∀ w : World, Reg.Keeps w w := Reg.Keeps.refl
                refine Reg.wp_region_props (Reg.ofList (kal25hi ab gr m cr j ix z.b z.v yq yv)) Reg.Keeps (fun _ w => Reg.Keeps W2 w) (by kernel_rfl) (by kernel_rfl) (Reg.AllKept.at _ (kal25hi_kept ab gr m cr j ix z.b z.v yq yv)) hrefl (Reg.Keeps.drewN (Reg.Keeps.refl _) 1) ⟨?_, ?_, ?_, ?_, ?_, ?_, ?_, ?_, ?_, ?_, ?_, ?_, trivial⟩ ?_
                · refine Reg.StepAt.plain (i := 0) rfl ?_
                  intro L ev w hI hk hp hA
                  have e14 : ev (.tmp 14) = .int .i64 (ix : Int) := hA.oldNone 14 (by kernel_rfl)
                  have hcc := hA.const
                  clear hA hp
                  refine Reg.out_value (v := .int .i64 (ix : Int)) ?_ ⟨rfl, hrefl _, hI⟩
                  go_simp
                · refine Reg.StepAt.plain (i := 1) rfl ?_
                  intro L ev w hI hk hp hA
                  have e100 : ev (.tmp 100) = .int .i64 (ix : Int) := hA.val 0 _ 100 rfl (hp ⟨0, .data⟩ (by simp) rfl) rfl
                  have hcc := hA.const
                  clear hA hp
                  refine Reg.out_value (v := .bool false) ?_ ⟨rfl, hrefl _, hI⟩
                  go_simp
                · refine Reg.StepAt.plain (i := 2) rfl ?_
                  intro L ev w hI hk hp hA
                  have e101 : ev (.tmp 101) = .bool false := hA.val 1 _ 101 rfl (hp ⟨1, .data⟩ (by simp) rfl) rfl
                  have hcc := hA.const
                  clear hA hp
                  refine Reg.out_value (v := .bool false) ?_ ⟨rfl, hrefl _, hI⟩
                  go_simp
                · refine Reg.StepAt.guarded (i := 3) rfl ?_
                  intro L ev w hI hk hp hA
                  have e12 : ev (.tmp 12) = .pointer (some ⟨ab, 0, none⟩) := hA.oldNone 12 (by kernel_rfl)
                  have eg : ev (.tmp 102) = .bool false := hA.val 2 _ 102 rfl (hp ⟨2, .guard⟩ (by simp) rfl) rfl
                  refine ⟨_, 102, false, rfl, rfl, eg, ?_⟩
                  rw [if_neg (by decide)]
                  have hcc := hA.const
                  clear hA hp
                  exact ⟨trivial, hI⟩
                · refine Reg.StepAt.guarded (i := 4) rfl ?_
                  intro L ev w hI hk hp hA
                  have e103 : (fun _ _ => True) (ev (.tmp 103)) w := hA.val 3 _ 103 rfl (hp ⟨3, .data⟩ (by simp) rfl) rfl
                  have eg : ev (.tmp 102) = .bool false := hA.val 2 _ 102 rfl (hp ⟨2, .guard⟩ (by simp) rfl) rfl
                  refine ⟨_, 102, false, rfl, rfl, eg, ?_⟩
                  rw [if_neg (by decide)]
                  have hcc := hA.const
                  clear hA hp
                  exact ⟨trivial, hI⟩
                · refine Reg.StepAt.guarded (i := 5) rfl ?_
                  intro L ev w hI hk hp hA
                  have e8 : ev (.tmp 8) = .slice (some ⟨gr, 0, none⟩) m cr := hA.oldNone 8 (by kernel_rfl)
                  have eg : ev (.tmp 102) = .bool false := hA.val 2 _ 102 rfl (hp ⟨2, .guard⟩ (by simp) rfl) rfl
                  refine ⟨_, 102, false, rfl, rfl, eg, ?_⟩
                  rw [if_neg (by decide)]
                  have hcc := hA.const
                  clear hA hp
                  exact ⟨trivial, hI⟩
                · refine Reg.StepAt.guarded (i := 6) rfl ?_
                  intro L ev w hI hk hp hA
                  have e15 : ev (.tmp 15) = .int .i64 (j : Int) := hA.oldNone 15 (by kernel_rfl)
                  have eg : ev (.tmp 102) = .bool false := hA.val 2 _ 102 rfl (hp ⟨2, .guard⟩ (by simp) rfl) rfl
                  refine ⟨_, 102, false, rfl, rfl, eg, ?_⟩
                  rw [if_neg (by decide)]
                  have hcc := hA.const
                  clear hA hp
                  exact ⟨trivial, hI⟩
                · refine Reg.StepAt.guarded (i := 7) rfl ?_
                  intro L ev w hI hk hp hA
                  have e105 : (fun _ _ => True) (ev (.tmp 105)) w := hA.val 5 _ 105 rfl (hp ⟨5, .data⟩ (by simp) rfl) rfl
                  have e106 : (fun _ _ => True) (ev (.tmp 106)) w := hA.val 6 _ 106 rfl (hp ⟨6, .data⟩ (by simp) rfl) rfl
                  have eg : ev (.tmp 102) = .bool false := hA.val 2 _ 102 rfl (hp ⟨2, .guard⟩ (by simp) rfl) rfl
                  refine ⟨_, 102, false, rfl, rfl, eg, ?_⟩
                  rw [if_neg (by decide)]
                  have hcc := hA.const
                  clear hA hp
                  exact ⟨trivial, hI⟩
                · refine Reg.StepAt.guarded (i := 8) rfl ?_
                  intro L ev w hI hk hp hA
                  have e107 : (fun _ _ => True) (ev (.tmp 107)) w := hA.val 7 _ 107 rfl (hp ⟨7, .data⟩ (by simp) rfl) rfl
                  have eg : ev (.tmp 102) = .bool false := hA.val 2 _ 102 rfl (hp ⟨2, .guard⟩ (by simp) rfl) rfl
                  refine ⟨_, 102, false, rfl, rfl, eg, ?_⟩
                  rw [if_neg (by decide)]
                  have hcc := hA.const
                  clear hA hp
                  exact ⟨trivial, hI⟩
                · refine Reg.StepAt.guarded (i := 9) rfl ?_
                  intro L ev w hI hk hp hA
                  have e104 : (fun _ _ => True) (ev (.tmp 104)) w := hA.val 4 _ 104 rfl (hp ⟨4, .data⟩ (by simp) rfl) rfl
                  have e108 : (fun _ _ => True) (ev (.tmp 108)) w := hA.val 8 _ 108 rfl (hp ⟨8, .data⟩ (by simp) rfl) rfl
                  have eg : ev (.tmp 102) = .bool false := hA.val 2 _ 102 rfl (hp ⟨2, .chain⟩ (by simp) rfl) rfl
                  refine ⟨_, 102, false, rfl, rfl, eg, ?_⟩
                  rw [if_neg (by decide)]
                  have hcc := hA.const
                  have hcf := hA.func
                  clear hA hp
                  exact ⟨trivial, hI⟩
                · refine Reg.StepAt.guarded (i := 10) rfl ?_
                  intro L ev w hI hk hp hA
                  have e109 : (fun _ _ => True) (ev (.tmp 109)) w := hA.val 9 _ 109 rfl (hp ⟨9, .data⟩ (by simp) rfl) rfl
                  have eg : ev (.tmp 102) = .bool false := hA.val 2 _ 102 rfl (hp ⟨2, .guard⟩ (by simp) rfl) rfl
                  refine ⟨_, 102, false, rfl, rfl, eg, ?_⟩
                  rw [if_neg (by decide)]
                  have hcc := hA.const
                  clear hA hp
                  exact ⟨trivial, hI⟩
                · refine Reg.StepAt.plain (i := 11) rfl ?_
                  intro L ev w hI hk hp hA
                  have e102 : ev (.tmp 102) = .bool false := hA.val 2 _ 102 rfl (hp ⟨2, .data⟩ (by simp) rfl) rfl
                  have e110 : (fun _ _ => True) (ev (.tmp 110)) w := hA.val 10 _ 110 rfl (hp ⟨10, .data⟩ (by simp) rfl) rfl
                  have hcc := hA.const
                  clear hA hp
                  refine Reg.out_value (v := .bool false) ?_ ⟨rfl, hrefl _, hI⟩
                  go_simp
                intro L act wz hall hI hF
                have g100 : act.eval (.tmp 100) = .int .i64 (ix : Int) := hF.val 0 _ 100 rfl (hall 0 (by simp)) rfl
                have g101 : act.eval (.tmp 101) = .bool false := hF.val 1 _ 101 rfl (hall 1 (by simp)) rfl
                have g102 : act.eval (.tmp 102) = .bool false := hF.val 2 _ 102 rfl (hall 2 (by simp)) rfl
                have g103 : (fun _ _ => True) (act.eval (.tmp 103)) wz := hF.val 3 _ 103 rfl (hall 3 (by simp)) rfl
                have g104 : (fun _ _ => True) (act.eval (.tmp 104)) wz := hF.val 4 _ 104 rfl (hall 4 (by simp)) rfl
                have g105 : (fun _ _ => True) (act.eval (.tmp 105)) wz := hF.val 5 _ 105 rfl (hall 5 (by simp)) rfl
                have g106 : (fun _ _ => True) (act.eval (.tmp 106)) wz := hF.val 6 _ 106 rfl (hall 6 (by simp)) rfl
                have g107 : (fun _ _ => True) (act.eval (.tmp 107)) wz := hF.val 7 _ 107 rfl (hall 7 (by simp)) rfl
                have g108 : (fun _ _ => True) (act.eval (.tmp 108)) wz := hF.val 8 _ 108 rfl (hall 8 (by simp)) rfl
                have g109 : (fun _ _ => True) (act.eval (.tmp 109)) wz := hF.val 9 _ 109 rfl (hall 9 (by simp)) rfl
                have g110 : (fun _ _ => True) (act.eval (.tmp 110)) wz := hF.val 10 _ 110 rfl (hall 10 (by simp)) rfl
                have g111 : act.eval (.tmp 111) = .bool false := hF.val 11 _ 111 rfl (hall 11 (by simp)) rfl
                have hact := hF.act [100, 101, 102, 103, 104, 105, 106, 107, 108, 109, 110, 111] (by kernel_rfl)
                clear hF hall
                simp only [List.foldl_cons, List.foldl_nil] at hact
                rw [g100, g101, g102, g111] at hact
                clear g100 g101 g102 g111
                generalize act.eval (.tmp 103) = u103 at hact g103
                generalize act.eval (.tmp 104) = u104 at hact g104
                generalize act.eval (.tmp 105) = u105 at hact g105
                generalize act.eval (.tmp 106) = u106 at hact g106
                generalize act.eval (.tmp 107) = u107 at hact g107
                generalize act.eval (.tmp 108) = u108 at hact g108
                generalize act.eval (.tmp 109) = u109 at hact g109
                generalize act.eval (.tmp 110) = u110 at hact g110
                simp only [List.setIfInBounds_toArray, List.set_cons_succ, List.set_cons_zero] at hact
                subst hact
                have HI := hidq (show Below W9.heap.size W9 wz from hBW.out.trans ((show Below W2.heap.size W2 wz from hI).mono hBW.out.size))
                clear hI hBW
                go_wp2
                go_roundw
                case rel => exact ⟨j + 1, by go_num, by have := HJ.out; omega, by rw [if_pos (by have := HJ.out; omega)], HI⟩
                case measure => simp [intOf]; have := HJ.out; omega
            · have hje : m = j := by omega
              subst hje
              rw [if_pos hix] at h14
              subst h14
              have hix0 : decide ((ix : Int) < 0) = false := decide_eq_false (by omega)
              obtain ⟨jx, hjx⟩ : ∃ jx : Nat, (ix : Int) + 1 = (jx : Int) := ⟨ix + 1, by omega⟩
              have hW2 := hBW.out
              have hFl := HF9.out.but (S := fun _ => False) (But.of_below hW2) id
              have hle := hFl.le
              have hxl : ix < m := by omega
              have hxs : (ix : Int) ≤ 60 := by have := HTL.out; omega
              have hxc : ix ≤ cr := by omega
              have hxcI : (ix : Int) ≤ (cr : Int) := by omega
              have hjl : jx ≤ m := by omega
              have hjlI : (jx : Int) ≤ (m : Int) := by omega
              obtain ⟨o8, ho8⟩ : ∃ o8, o8 = if cr = jx then 0 else jx * 2 := ⟨_, rfl⟩
              have HO8 := hidq ho8
              have ho82 : o8 = jx * 2 ∨ jx = m := by
                by_cases e : cr = jx
                · exact .inr (by omega)
                · rw [if_neg e] at ho8; exact .inl ho8
              have hSa := hidq (fun W (hW : Below W2.heap.size W2 W) => part_lo (hFl.but (S := fun _ => False) (But.of_below hW) id) cr (show ix ≤ T.length by have := hlen.out; omega))
              have hSb := hidq (fun W (hW : Below W2.heap.size W2 W) => part_hi (hFl.but (S := fun _ => False) (But.of_below hW) id) (cr - jx) hlen.out.symm hjl ho82)
              obtain ⟨lo3, hlo3⟩ : ∃ lo3, W2.heap.size = lo3 := ⟨_, rfl⟩
              have HLO3 := hidq hlo3
              have HJX := hidq (show jx = ix + 1 by omega)
              have HXL := hidq (And.intro hxl hjl)
              clear hlo3 ho8 ho82 hFl hW2 hxl
              go_wp2_with fail
              have hrefl : ∀ w : World, Reg.Keeps w w := Reg.Keeps.refl
              refine Reg.wp_region_props_tail 9 (Reg.ofList (kal30R lo3 gr m cr ix jx o8 T)) Reg.Keeps (fun _ w => Reg.Keeps W2 w) (by kernel_rfl) (by kernel_rfl) (by kernel_rfl) (Reg.AllKept.at _ (kal30R_kept lo3 gr m cr ix jx o8 T)) hrefl (Reg.Keeps.drewN (Reg.Keeps.refl _) 1) ⟨?_, ?_, ?_, ?_, ?_, ?_, ?_, ?_, ?_, trivial⟩ ?_
              · refine Reg.StepAt.plain (i := 0) rfl ?_
                intro L ev w hI hk hp hA
                have hcc := hA.const
                clear hA hp
                refine Reg.out_new (v := .slice (some ⟨w.heap.size, 0, none⟩) 0 0) (w' := w.alloc (.cells #[] 45)) ?_ ⟨⟨w.heap.size, rfl, Flat.new w [] 45 2 0 rfl (Nat.zero_le _) (fun _ h => (by cases h)), by have h1 : W2.heap.size ≤ w.heap.size := hI.size; have h2 := HLO3.out; omega⟩, (Reg.Keeps.refl _).alloc _, Reg.Keeps.alloc hI _⟩
                go_simp
              · refine Reg.StepAt.plain (i := 1) rfl ?_
                intro L ev w hI hk hp hA
                have e8 : ev (.tmp 8) = .slice (some ⟨gr, 0, none⟩) m cr := hA.oldBut 10 _ 8 (by kernel_rfl) rfl ⟨1, .phase⟩ (by simp) rfl hk
                have hcc := hA.const
                clear hA hp
                refine Reg.out_value (v := .slice (some ⟨gr, 0, none⟩) m cr) ?_ ⟨rfl, hrefl _, hI⟩
                go_simp
              · refine Reg.StepAt.plain (i := 2) rfl ?_
                intro L ev w hI hk hp hA
                have e14 : ev (.tmp 14) = .int .i64 (ix : Int) := hA.oldNone 14 (by kernel_rfl)
                have hcc := hA.const
                clear hA hp
                refine Reg.out_value (v := .int .i64 (ix : Int)) ?_ ⟨rfl, hrefl _, hI⟩
                go_simp
              · refine Reg.StepAt.plain (i := 3) rfl ?_
                intro L ev w hI hk hp hA
                have e117 : ev (.tmp 117) = .slice (some ⟨gr, 0, none⟩) m cr := hA.val 1 _ 117 rfl (hp ⟨1, .data⟩ (by simp) rfl) rfl
                have e118 : ev (.tmp 118) = .int .i64 (ix : Int) := hA.val 2 _ 118 rfl (hp ⟨2, .data⟩ (by simp) rfl) rfl
                have hcc := hA.const
                clear hA hp
                refine Reg.out_value (v := .slice (some ⟨gr, 0, none⟩) ix cr) ?_ ⟨rfl, hrefl _, hI⟩
                go_simp
              · refine Reg.StepAt.plain (i := 4) rfl ?_
                intro L ev w hI hk hp hA
                have e116 : (fun v w => ∃ g, v = .slice (some ⟨g, 0, none⟩) 0 0 ∧ Flat 2 w g 0 0 [] ∧ lo3 ≤ g) (ev (.tmp 116)) w := hA.val 0 _ 116 rfl (hp ⟨0, .data⟩ (by simp) rfl) rfl
                have e119 : ev (.tmp 119) = .slice (some ⟨gr, 0, none⟩) ix cr := hA.val 3 _ 119 rfl (hp ⟨3, .data⟩ (by simp) rfl) rfl
                have hcc := hA.const
                clear hA hp
                obtain ⟨g, e116, hFg, hlg⟩ := e116
                obtain ⟨g', c', w', hr, hF', hb', hg'⟩ := fresh_append plainR 52 w g hFg (.slice (some ⟨gr, 0, none⟩) ix cr) ix (flatR (T.take ix)) (hSa.out w hI) (by omega)
                refine Reg.out_new (v := .slice (some ⟨g', 0, none⟩) ix c') (w' := w') ?_ ⟨⟨g', c', rfl, hF', by have h1 : W2.heap.size ≤ w.heap.size := hI.size; have h2 := HLO3.out; omega⟩, hb', Reg.Keeps.trans hI hb'⟩
                clear hFg hF' hb' hg'
                simp [execOp, resolve, invoke, builtin, e116, e119, hr, Result.andThen]
              · refine Reg.StepAt.plain (i := 5) rfl ?_
                intro L ev w hI hk hp hA
                have e8 : ev (.tmp 8) = .slice (some ⟨gr, 0, none⟩) m cr := hA.oldBut 10 _ 8 (by kernel_rfl) rfl ⟨5, .phase⟩ (by simp) rfl hk
                have hcc := hA.const
                clear hA hp
                refine Reg.out_value (v := .slice (some ⟨gr, 0, none⟩) m cr) ?_ ⟨rfl, hrefl _, hI⟩
                go_simp
              · refine Reg.StepAt.plain (i := 6) rfl ?_
                intro L ev w hI hk hp hA
                have e14 : ev (.tmp 14) = .int .i64 (ix : Int) := hA.oldNone 14 (by kernel_rfl)
                have hcc := hA.const
                clear hA hp
                refine Reg.out_value (v := .int .i64 (ix : Int)) ?_ ⟨rfl, hrefl _, hI⟩
                go_simp
              · refine Reg.StepAt.plain (i := 7) rfl ?_
                intro L ev w hI hk hp hA
                have e122 : ev (.tmp 122) = .int .i64 (ix : Int) := hA.val 6 _ 122 rfl (hp ⟨6, .data⟩ (by simp) rfl) rfl
                have hcc := hA.const
                clear hA hp
                refine Reg.out_value (v := .int .i64 (jx : Int)) ?_ ⟨rfl, hrefl _, hI⟩
                (go_simp; exact wrapS (by omega))
              · refine Reg.StepAt.plain (i := 8) rfl ?_
                intro L ev w hI hk hp hA
                have e121 : ev (.tmp 121) = .slice (some ⟨gr, 0, none⟩) m cr := hA.val 5 _ 121 rfl (hp ⟨5, .data⟩ (by simp) rfl) rfl
                have e123 : ev (.tmp 123) = .int .i64 (jx : Int) := hA.val 7 _ 123 rfl (hp ⟨7, .data⟩ (by simp) rfl) rfl
                have hcc := hA.const
                clear hA hp
                refine Reg.out_value (v := .slice (some ⟨gr, o8, none⟩) (m - jx) (cr - jx)) ?_ ⟨rfl, hrefl _, hI⟩
                (have h8 := HO8.out; by_cases hcj : cr = jx; (rw [if_pos hcj] at h8; subst h8; go_simp); (rw [if_neg hcj] at h8; subst h8; go_simp))
              intro act wz hI hF
              have g116 : (fun v w => ∃ g, v = .slice (some ⟨g, 0, none⟩) 0 0 ∧ Flat 2 w g 0 0 [] ∧ lo3 ≤ g) (act.eval (.tmp 116)) wz := hF.val 0 _ 116 rfl (by kernel_rfl) rfl
              have g117 : act.eval (.tmp 117) = .slice (some ⟨gr, 0, none⟩) m cr := hF.val 1 _ 117 rfl (by kernel_rfl) rfl
              have g118 : act.eval (.tmp 118) = .int .i64 (ix : Int) := hF.val 2 _ 118 rfl (by kernel_rfl) rfl
              have g119 : act.eval (.tmp 119) = .slice (some ⟨gr, 0, none⟩) ix cr := hF.val 3 _ 119 rfl (by kernel_rfl) rfl
              have g120 : (fun v w => ∃ g c, v = .slice (some ⟨g, 0, none⟩) ix c ∧ Flat 2 w g c ix (flatR (T.take ix)) ∧ lo3 ≤ g) (act.eval (.tmp 120)) wz := hF.val 4 _ 120 rfl (by kernel_rfl) rfl
              have g121 : act.eval (.tmp 121) = .slice (some ⟨gr, 0, none⟩) m cr := hF.val 5 _ 121 rfl (by kernel_rfl) rfl
              have g122 : act.eval (.tmp 122) = .int .i64 (ix : Int) := hF.val 6 _ 122 rfl (by kernel_rfl) rfl
              have g123 : act.eval (.tmp 123) = .int .i64 (jx : Int) := hF.val 7 _ 123 rfl (by kernel_rfl) rfl
              have g124 : act.eval (.tmp 124) = .slice (some ⟨gr, o8, none⟩) (m - jx) (cr - jx) := hF.val 8 _ 124 rfl (by kernel_rfl) rfl
              have hact := hF.actHead [116, 117, 118, 119, 120, 121, 122, 123, 124] (by kernel_rfl)
              clear hF
              simp only [List.foldl_cons, List.foldl_nil] at hact
              rw [g117, g118, g119, g121, g122, g123, g124] at hact
              clear g117 g118 g119 g121 g122 g123 g124
              generalize act.eval (.tmp 116) = u116 at hact g116
              generalize act.eval (.tmp 120) = u120 at hact g120
              simp only [List.setIfInBounds_toArray, List.set_cons_succ, List.set_cons_zero] at hact
              subst hact
              simp only [List.drop_succ_cons, List.drop_zero]
              obtain ⟨g4, c4, rfl, hF4, hl4⟩ := g120
              have hIz : Below W2.heap.size W2 wz := hI
              clear hI
              refine wpList_flat plainR wz rfl (.tmp 120) (.tmp 124) rfl g4 c4 ix (flatR (T.take ix)) rfl hF4 _ rfl (m - jx) (flatR (T.drop jx)) (hSb.out wz hIz) (by have := HTL.out; omega) ?_
              intro g5 c5 w5 hF5 hB5 hg5
              have HZ := hidq (show KA w sb mb k (i + 1) g5 c5 T' w5 ∧ ix + (m - jx) = T'.length from by
                obtain ⟨_, _, her, hT', _, _⟩ := HIX.out
                have hj1 := HJX.out
                have hle := hlen.out
                obtain ⟨hx1, hx2⟩ := HXL.out
                have hlo := HLO3.out
                have hT2 : T' = T.take ix ++ T.drop jx := by rw [hT', her, hj1]
                have hln : T'.length = ix + (m - jx) := by rw [hT2, List.length_append, List.length_take, List.length_drop]; omega
                have hf : flatR T' = flatR (T.take ix) ++ flatR (T.drop jx) := by rw [hT2, flatR_append]
                rw [← hln, ← hf] at hF5
                have s9 := HB9.out.2.size
                have s2 := hBW.out.size
                have sz := hIz.size
                refine ⟨HO.out w5 T' g5 c5 ?_ rfl (.inr (by omega)) hF5, hln.symm⟩
                refine (But.of_below HB9.out.2).then (((But.of_below (S := fun j => j = g4) hBW.out).trans (But.of_below hIz)).trans hB5) (fun j hj e => by omega))
              clear hF5 hB5 hg5 hF4 hl4 hIz
              go_wp2
              go_roundw
              case rel => exact ⟨i + 1, _, g5, c5, _, rfl, by go_num, by have := HLT.out; omega, hidq HZ.out.2, hidq HZ.out.1⟩
              case measure => simp [intOf]; omega
    · have hnd : ¬ ((i : Int) < (n : Int)) ∨ ((i : Int) < (n : Int) ∧ ¬ ((i : Int) < 30)) := by omega
      have HL := hidq (show Below w.heap.size w W1 from by obtain ⟨_, _, _, _, hS, _⟩ := hT.out; exact hS.low)
      clear hT hlen HOPS
      rcases hnd with h' | ⟨h', h''⟩
      · have hd1 : decide ((i : Int) < (n : Int)) = false := decide_eq_false h'
        have hd2 : decide (i < n) = false := decide_eq_false (by omega)
        clear hlt h'
        go_wp2
        go_ret
        exact ⟨rfl, HL.out⟩
      · have hd1 : decide ((i : Int) < 30) = false := decide_eq_false h''
        have hd2 : decide (i < 30) = false := decide_eq_false (by omega)
        clear hlt h''
        go_wp2
        go_ret
        exact ⟨rfl, HL.out⟩
end Go.Proofs.Ytclcmabohpoaiaa
