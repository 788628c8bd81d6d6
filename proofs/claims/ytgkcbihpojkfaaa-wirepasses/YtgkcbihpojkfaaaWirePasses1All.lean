/-
  Layer 10, the document's answer: so many wires: contract.
  Layer 6's reference: draws, parameters: contracts.
  Layer 10: widths that may not be; the law of plans: the call returns true.
  Layer 10, the document's answer: a token on its way: contract.
  Layer 10: tokens one by one, as numbers; drawn regions that make a few boxes: the rule's parts.
  Layer 10's law of passes: the call returns true.
-/
import Derived.Test.YtgkcbihpojkfaaaWireR4All
import Derived.Test.YtgkcbihpojkfaaaFresh5All
namespace Go.Proofs.Ytgkcbihpojkfaaa
open Go.RowKit Go.Sort

theorem Reg.cnt_zero3 {a b c : Nat} {L : Array Bool} (h : L.getD a false = false) (h2 : L.getD b false = false) (h3 : L.getD c false = false) : Reg.cnt [a, b, c] L = 0 := by simp only [Reg.cnt, List.countP_cons, List.countP_nil, h, h2, h3]; decide
theorem Reg.cnt_one3 {a b c : Nat} {L : Array Bool} (h : L.getD a false = true) (h2 : L.getD b false = false) (h3 : L.getD c false = false) : Reg.cnt [a, b, c] L = 1 := by simp only [Reg.cnt, List.countP_cons, List.countP_nil, h, h2, h3]; decide
theorem Reg.cnt_two3 {a b c : Nat} {L : Array Bool} (h : L.getD a false = true) (h2 : L.getD b false = true) (h3 : L.getD c false = false) : Reg.cnt [a, b, c] L = 2 := by simp only [Reg.cnt, List.countP_cons, List.countP_nil, h, h2, h3]; decide
theorem flat_app {P : Program} {k : Nat} {T E : TypeId} (hp : PlainK P k T E) (ty : TypeId) (w : World) (g cap n : Nat) (l : List Value) (h : Flat k w g cap n l) (x : Value) (m : Nat) (ys : List Value) (hs : Src P k T x m ys w) (hb : n + m ≤ 1099511627776) :
    ∃ g' cap' w', (Builtin.append_ #[T, T] ty #[.slice (some ⟨g, 0, none⟩) n cap, x]).run P w = .ok (.slice (some ⟨g', 0, none⟩) (n + m) cap') w' ∧ Flat k w' g' cap' (n + m) (l ++ ys) ∧ But (fun j => j = g) w w' ∧ (g' = g ∨ w.heap.size ≤ g') := by
  obtain ⟨i, z, hT, hi, hz, hsz, hzc, hby⟩ := hp
  exact flat_append k T E ty i z hT hi hz hsz hzc w g cap n l h x m ys hs (by unfold maxLen; omega) (Nat.le_trans (Nat.mul_le_mul hb hby) (by decide))
def CEnd (rb lo m : Nat) (cw : Option Addr) (wn wc : Nat) (l : List Nat) (w : World) : Prop :=
  ∃ g c, BoxAt w rb [.slice (some ⟨g, 0, none⟩) m c, .slice cw wn wc] ∧ Flat 1 w g c m (vals l) ∧ lo ≤ g
theorem CEnd.below {rb lo m : Nat} {cw : Option Addr} {wn wc : Nat} {l : List Nat} {w w' : World} (hB : Below w.heap.size w w') (h : CEnd rb lo m cw wn wc l w) : CEnd rb lo m cw wn wc l w' := by
  obtain ⟨g, c, h1, h2, h3⟩ := h
  exact ⟨g, c, h1.below hB, h2.but (S := fun _ => False) (But.of_below hB) id, h3⟩
set_option linter.unusedVariables false in
def rcount6R (ab bb cb rb lo pn pc qn qc rn rc wn wc : Nat) (ap bp cp cw : Option Addr) (PA PB PC : List Nat) : List (Value → Nat → World → Prop) :=
  [fun v _ w => ∃ g, v = .slice (some ⟨g, 0, none⟩) 0 0 ∧ g < w.heap.size ∧ lo ≤ g,
   fun v _ _ => v = .pointer (some ⟨ab, 0, none⟩),
   fun v _ _ => v = .slice ap pn pc,
   fun v x w => ∃ g c, v = .slice (some ⟨g, 0, none⟩) pn c ∧ (lo ≤ g ∧ 0 ≤ x) ∧ (x = 0 → Flat 1 w g c pn (vals PA)),
   fun v _ _ => v = .pointer (some ⟨bb, 0, none⟩),
   fun v _ _ => v = .slice bp qn qc,
   fun v x w => ∃ g c, v = .slice (some ⟨g, 0, none⟩) (pn + qn) c ∧ (lo ≤ g ∧ 1 ≤ x) ∧ (x = 1 → Flat 1 w g c (pn + qn) (vals (PA ++ PB))),
   fun v _ _ => v = .pointer (some ⟨cb, 0, none⟩),
   fun v _ _ => v = .slice cp rn rc,
   fun v x w => ∃ g c, v = .slice (some ⟨g, 0, none⟩) (pn + qn + rn) c ∧ (lo ≤ g ∧ 2 ≤ x) ∧ (x = 2 → Flat 1 w g c (pn + qn + rn) (vals (PA ++ PB ++ PC))),
   fun v _ _ => v = .pointer (some ⟨cb, 1, none⟩),
   fun v _ _ => v = .slice cw wn wc,
   fun v x w => ∃ g c, v = .agg #[.slice (some ⟨g, 0, none⟩) (pn + qn + rn) c, .slice cw wn wc] ∧ (lo ≤ g ∧ 2 ≤ x) ∧ (x = 2 → Flat 1 w g c (pn + qn + rn) (vals (PA ++ PB ++ PC))),
   fun _ _ _ => True]
theorem rcount6R_kept (ab bb cb rb lo pn pc qn qc rn rc wn wc : Nat) (ap bp cp cw : Option Addr) (PA PB PC : List Nat) : Reg.GAllKept (Reg.PPres (fun j => j = rb ∨ lo ≤ j)) (rcount6R ab bb cb rb lo pn pc qn qc rn rc wn wc ap bp cp cw PA PB PC) :=
  ⟨(fun v x w x' w' hp h => by obtain ⟨g, h1, h2, h3⟩ := h; exact ⟨g, h1, Nat.lt_of_lt_of_le h2 hp.2.2.size, h3⟩), (fun _ _ _ _ _ _ h => h), (fun _ _ _ _ _ _ h => h), (fun v x w x' w' hp h => by obtain ⟨g, c, h1, h0, h2⟩ := h; have hx := hp.1; refine ⟨g, c, h1, ⟨h0.1, by omega⟩, fun e => ?_⟩; have hxe : x' = x := (by omega); exact (h2 (by omega)).but (S := fun _ => False) (But.of_below (hp.2.1 hxe)) id), (fun _ _ _ _ _ _ h => h), (fun _ _ _ _ _ _ h => h), (fun v x w x' w' hp h => by obtain ⟨g, c, h1, h0, h2⟩ := h; have hx := hp.1; refine ⟨g, c, h1, ⟨h0.1, by omega⟩, fun e => ?_⟩; have hxe : x' = x := (by omega); exact (h2 (by omega)).but (S := fun _ => False) (But.of_below (hp.2.1 hxe)) id), (fun _ _ _ _ _ _ h => h), (fun _ _ _ _ _ _ h => h), (fun v x w x' w' hp h => by obtain ⟨g, c, h1, h0, h2⟩ := h; have hx := hp.1; refine ⟨g, c, h1, ⟨h0.1, by omega⟩, fun e => ?_⟩; have hxe : x' = x := (by omega); exact (h2 (by omega)).but (S := fun _ => False) (But.of_below (hp.2.1 hxe)) id), (fun _ _ _ _ _ _ h => h), (fun _ _ _ _ _ _ h => h), (fun v x w x' w' hp h => by obtain ⟨g, c, h1, h0, h2⟩ := h; have hx := hp.1; refine ⟨g, c, h1, ⟨h0.1, by omega⟩, fun e => ?_⟩; have hxe : x' = x := (by omega); exact (h2 (by omega)).but (S := fun _ => False) (But.of_below (hp.2.1 hxe)) id), (fun _ _ _ _ _ _ _ => trivial), trivial⟩

set_option maxRecDepth 20000 in
set_option maxHeartbeats 8000000 in
theorem rcount0_any (w : World) (f : Nat) : Calls Try.prog 11 #[.int .i64 (f : Int), .int .i64 1] w (NetEnd [] [f] w) := by
  obtain ⟨rb, hrb⟩ : ∃ rb, w.heap.size = rb := ⟨_, rfl⟩
  obtain ⟨W1, hW1⟩ : ∃ W1, w.alloc (.cells #[.slice none 0 0, .slice none 0 0] 32) = W1 := ⟨_, rfl⟩
  have hB1 := BoxAt.new w [.slice none 0 0, .slice none 0 0] 32
  rw [show w.alloc (.cells [.slice none 0 0, .slice none 0 0].toArray 32) = W1 from hW1, hrb] at hB1
  have hb1 : Below w.heap.size w W1 := by rw [← hW1]; exact (Below.refl _ _).alloc (Nat.le_refl _) _
  have hs1 : W1.heap.size = rb + 1 := by rw [← hW1]; simp [hrb]
  obtain ⟨W2, hW2⟩ : ∃ W2, W1.alloc (.cells #[] 3) = W2 := ⟨_, rfl⟩
  have hb2 : Below W1.heap.size W1 W2 := by rw [← hW2]; exact (Below.refl _ _).alloc (Nat.le_refl _) _
  have hs2 : W2.heap.size = rb + 2 := by rw [← hW2]; simp [hs1]
  obtain ⟨W3, hW3⟩ : ∃ W3, W2.alloc (.cells #[.int .i64 (f : Int)] 3) = W3 := ⟨_, rfl⟩
  have hB3 := BoxAt.new W2 [.int .i64 (f : Int)] 3
  rw [show W2.alloc (.cells [.int .i64 (f : Int)].toArray 3) = W3 from hW3, hs2] at hB3
  have hb3 : Below W2.heap.size W2 W3 := by rw [← hW3]; exact (Below.refl _ _).alloc (Nat.le_refl _) _
  have hs3 : W3.heap.size = rb + 3 := by rw [← hW3]; simp [hs2]
  have hR3 := (hB1.below hb2).below hb3
  obtain ⟨d0, y0⟩ := hR3.get 0 _ rfl
  obtain ⟨d1, y1⟩ := hR3.get 1 _ rfl
  obtain ⟨W9, hW9⟩ : ∃ W9, (W3.setCell ⟨rb, 0, none⟩ (.slice (some ⟨rb + 1, 0, none⟩) 0 0)).setCell ⟨rb, 1, none⟩ (.slice (some ⟨rb + 2, 0, none⟩) 1 1) = W9 := ⟨_, rfl⟩
  have hB9 : BoxAt W9 rb [.slice (some ⟨rb + 1, 0, none⟩) 0 0, .slice (some ⟨rb + 2, 0, none⟩) 1 1] := by rw [← hW9]; exact box_cells (cs := [.slice (some ⟨rb + 1, 0, none⟩) 0 0, .slice (some ⟨rb + 2, 0, none⟩) 1 1]) hR3 rfl
  have hb9 : But (fun j => j = rb) W3 W9 := by rw [← hW9]; exact but_setCells rb [.slice (some ⟨rb + 1, 0, none⟩) 0 0, .slice (some ⟨rb + 2, 0, none⟩) 1 1] 0 W3 W3 (But.refl _ _)
  have q0 := (hB9.get 0 _ rfl).1
  have q1 := (hB9.get 1 _ rfl).1
  have hb03 : Below w.heap.size w W3 := (hb1.trans (hb2.mono hb1.size)).trans (hb3.mono (by omega))
  have HEnd := hidq (show NetEnd [] [f] w (.returned (.agg #[.slice (some ⟨rb + 1, 0, none⟩) 0 0, .slice (some ⟨rb + 2, 0, none⟩) 1 1])) W9 from
    ⟨_, 0, 0, _, 1, 1, rfl, rfl, rfl, .inr ⟨rb + 1, rfl, flat_nil (by have := hb9.size; omega)⟩, .inr ⟨rb + 2, rfl, flat_box (l := [f]) (hB3.but hb9 (by omega)) rfl (by decide)⟩,
      (fun j e => by obtain ⟨q, hq, rfl⟩ := e; cases hq; show w.heap.size ≤ rb + 1; omega), (fun j e => by obtain ⟨q, hq, rfl⟩ := e; cases hq; show w.heap.size ≤ rb + 2; omega), hb03.trans (hb9.below (by omega) (fun j hj => by omega))⟩)
  have HW9 := hidq hW9
  clear hB1 hb1 hb2 hB3 hb3 hR3 hB9 hb9 hb03 hW9
  go_enter Try.func11, Try.ntmps11
  go_wp2_with fail
  rw [HW9.out]
  exact bodyPost_ret (v := .agg #[.slice (some ⟨rb + 1, 0, none⟩) 0 0, .slice (some ⟨rb + 2, 0, none⟩) 1 1]) (by simp [results, Try.results11, go_sem, q0, q1]) rfl HEnd.out
theorem range_split (f h : Nat) : List.range' f (2 * h) = List.range' f h ++ List.range' (f + h) h := by
  apply List.ext_getElem?
  intro j
  rw [List.getElem?_append, List.length_range']
  by_cases h1 : j < h
  · rw [if_pos h1, List.getElem?_range' (by omega), List.getElem?_range' h1]
  · rw [if_neg h1]
    by_cases h2 : j < 2 * h
    · rw [List.getElem?_range' h2, List.getElem?_range' (by omega)]; congr 1; omega
    · rw [List.getElem?_eq_none (by rw [List.length_range']; omega), List.getElem?_eq_none (by rw [List.length_range']; omega)]
set_option maxRecDepth 20000 in
set_option maxHeartbeats 16000000 in
theorem rcount_any : ∀ (d : Nat) (w : World) (f n : Nat), n = 2 ^ d → n ≤ 16 → f + n ≤ 64 →
    Calls Try.prog 11 #[.int .i64 (f : Int), .int .i64 (n : Int)] w (NetEnd (Wr.count d (List.range' f n)).1 (Wr.count d (List.range' f n)).2 w) := by
  intro d
  induction d with
  | zero =>
    intro w f n hn _ _
    have hn1 : n = 1 := hn
    subst hn1
    exact rcount0_any w f
  | succ d ih =>
    intro w f n hn hn16 hfn
    obtain ⟨h, hh⟩ : ∃ h, h = 2 ^ d := ⟨_, rfl⟩
    have hn2 : n = 2 * h := by rw [hn, Wr.pow_succ2, hh]
    have hpos : 1 ≤ h := by have := Nat.two_pow_pos d; omega
    have hne : ((n : Int) == 1) = false := by simp; omega
    have hdiv : (n : Int) / 2 = (h : Int) := by omega
    have hh8 : h ≤ 8 := by omega
    obtain ⟨fh, hfh⟩ : ∃ fh, f + h = fh := ⟨_, rfl⟩
    have hfhI : (f : Int) + (h : Int) = (fh : Int) := by omega
    have hfb : f ≤ 64 := by omega
    have hsp : List.range' f n = List.range' f h ++ List.range' fh h := by rw [hn2, range_split, hfh]
    have hlx : (List.range' f h).length = 2 ^ d := by rw [List.length_range', hh]
    have hly : (List.range' fh h).length = 2 ^ d := by rw [List.length_range', hh]
    have et : (List.range' f n).take (2 ^ d) = List.range' f h := by rw [hsp, List.take_left' hlx]
    have ed : (List.range' f n).drop (2 ^ d) = List.range' fh h := by rw [hsp, List.drop_left' hlx]
    have e1 : (Wr.count (d + 1) (List.range' f n)).1 = (Wr.count d (List.range' f h)).1 ++ (Wr.count d (List.range' fh h)).1 ++ (Wr.merge d (Wr.count d (List.range' f h)).2 (Wr.count d (List.range' fh h)).2).1 := by
      show (Wr.count d ((List.range' f n).take (2 ^ d))).1 ++ (Wr.count d ((List.range' f n).drop (2 ^ d))).1 ++ (Wr.merge d (Wr.count d ((List.range' f n).take (2 ^ d))).2 (Wr.count d ((List.range' f n).drop (2 ^ d))).2).1 = _
      rw [et, ed]
    have e2 : (Wr.count (d + 1) (List.range' f n)).2 = (Wr.merge d (Wr.count d (List.range' f h)).2 (Wr.count d (List.range' fh h)).2).2 := by
      show (Wr.merge d (Wr.count d ((List.range' f n).take (2 ^ d))).2 (Wr.count d ((List.range' f n).drop (2 ^ d))).2).2 = _
      rw [et, ed]
    rw [e1, e2]
    have q1 := Wr.count_length d _ hlx
    have q2 := Wr.count_length d _ hly
    have g1 := count_gates d _ hlx
    have g2 := count_gates d _ hly
    have g3 := merge_gates d _ _ q1 q2
    have gb := mg_rng (d := d) (by rw [← hh]; omega)
    have cb0 : cg d ≤ 100 := cg_le (by rcases Nat.lt_or_ge 4 d with h' | h'; (have := Nat.pow_le_pow_right (n := 2) (by decide) (show 5 ≤ d from h'); omega); exact h')
    have kk1 := fun W => ih W f h hh (by omega) (by omega)
    have kk2 := fun W => ih W fh h hh (by omega) (by omega)
    generalize hA : Wr.count d (List.range' f h) = A at q1 g1 g3 kk1 ⊢
    generalize hB : Wr.count d (List.range' fh h) = B at q2 g2 g3 kk2 ⊢
    have kk3 := fun W xa ya xc yc (hx : NsAt W xa (fun _ => False) A.2) (hy : NsAt W ya (fun _ => False) B.2) => rmerge_any d W xa ya xc yc h (fun _ => False) (fun _ => False) A.2 B.2 hx hy (q1.trans hh.symm) (q2.trans hh.symm) hh (by omega)
    generalize hC : Wr.merge d A.2 B.2 = C at g3 kk3 ⊢
    have HL := hidq (And.intro g1 (And.intro g2 (And.intro g3 (And.intro gb (And.intro cb0 (And.intro q1 (And.intro q2 hh)))))))
    have HK1 := hidq (kk1)
    have HK2 := hidq (kk2)
    have HK3 := hidq (kk3)
    obtain ⟨rb, hrb⟩ : ∃ rb, w.heap.size = rb := ⟨_, rfl⟩
    obtain ⟨W1, hW1⟩ : ∃ W1, w.alloc (.cells #[.slice none 0 0, .slice none 0 0] 32) = W1 := ⟨_, rfl⟩
    have hB1 := BoxAt.new w [.slice none 0 0, .slice none 0 0] 32
    rw [show w.alloc (.cells [.slice none 0 0, .slice none 0 0].toArray 32) = W1 from hW1, hrb] at hB1
    have hb1 : Below w.heap.size w W1 := by rw [← hW1]; exact (Below.refl _ _).alloc (Nat.le_refl _) _
    have H1 := hidq (And.intro hB1 hb1)
    have HW := hidq hW1
    clear ih kk1 kk2 kk3 hn2 hpos hh g1 g2 g3 gb cb0 q1 q2 hn hn16 hfn hsp hlx hly et ed e1 e2 hA hB hC hB1 hb1 hW1 hfh
    go_enter Try.func11, Try.ntmps11
    go_wp2_with fail
    rw [HW.out]
    refine (HK1.out W1).mono ?_
    rintro e w3 ⟨ap, pn, pc, aw, an, ac, rfl, hpn, han, hS3, hT3, hi3, hj3, hb3⟩
    obtain rfl : h = an := by rw [← han, HL.out.2.2.2.2.2.1]; exact HL.out.2.2.2.2.2.2.2
    obtain ⟨ab, hab⟩ : ∃ ab, w3.heap.size = ab := ⟨_, rfl⟩
    obtain ⟨W3, hW3⟩ : ∃ W3, w3.alloc (.cells #[.slice ap pn pc, .slice aw h ac] 32) = W3 := ⟨_, rfl⟩
    have hB3 := BoxAt.new w3 [.slice ap pn pc, .slice aw h ac] 32
    rw [show w3.alloc (.cells [.slice ap pn pc, .slice aw h ac].toArray 32) = W3 from hW3, hab] at hB3
    have hbW3 : Below w3.heap.size w3 W3 := by rw [← hW3]; exact (Below.refl _ _).alloc (Nat.le_refl _) _
    have hb03 : Below w.heap.size w W3 := (H1.out.2.trans (hb3.mono H1.out.2.size)).trans (hbW3.mono (by have := H1.out.2.size; have := hb3.size; omega))
    have H3 := hidq (And.intro ((H1.out.1.below hb3).below hbW3) (And.intro hb03 (And.intro hB3 (And.intro (hS3.below hbW3) (And.intro (hT3.below hbW3) hpn)))))
    have NA := hidq (fun j (hj : inB ap j) (e : j = rb) => (show False from by have := hi3 j hj; have h9 := H1.out.1.lt; omega))
    have HW3 := hidq hW3
    clear hB3 hbW3 hb03 hS3 hT3 hi3 hj3 hb3 hpn han hW3 H1 HW
    go_wp2_with fail
    rw [HW3.out]
    refine (HK2.out W3).mono ?_
    rintro e w5 ⟨bp, qn, qc, bw, bn, bc, rfl, hqn, hbn, hS5, hT5, hi5, hj5, hb5⟩
    obtain rfl : h = bn := by rw [← hbn, HL.out.2.2.2.2.2.2.1]; exact HL.out.2.2.2.2.2.2.2
    obtain ⟨bb, hbb⟩ : ∃ bb, w5.heap.size = bb := ⟨_, rfl⟩
    obtain ⟨W5, hW5⟩ : ∃ W5, w5.alloc (.cells #[.slice bp qn qc, .slice bw h bc] 32) = W5 := ⟨_, rfl⟩
    have hB5 := BoxAt.new w5 [.slice bp qn qc, .slice bw h bc] 32
    rw [show w5.alloc (.cells [.slice bp qn qc, .slice bw h bc].toArray 32) = W5 from hW5, hbb] at hB5
    have hbW5 : Below w5.heap.size w5 W5 := by rw [← hW5]; exact (Below.refl _ _).alloc (Nat.le_refl _) _
    obtain ⟨v1, v2, v3, v4, v5, v6⟩ := H3.out
    have hb35 := hb5.trans (hbW5.mono hb5.size)
    have hb05 : Below w.heap.size w W5 := v2.trans (hb35.mono v2.size)
    have k3 := HK3.out W5 aw bw ac bc (nsAt_of (v5.below hb35) (fun _ _ => id)) (nsAt_of (hT5.below hbW5) (fun _ _ => id))
    have a1 := ((v3.below hb35).get 1 _ rfl).1
    have b1 := (hB5.get 1 _ rfl).1
    have hal : ab < W5.heap.size := (v3.below hb35).lt
    have hbl : bb < W5.heap.size := hB5.lt
    have H5 := hidq (And.intro (v1.below hb35) (And.intro hb05 (And.intro (v3.below hb35) (And.intro (v4.below hb35) (And.intro v6 (And.intro hB5 (And.intro (hS5.below hbW5) hqn)))))))
    have NB := hidq (fun j (hj : inB bp j) (e : j = rb) => (show False from by have := hi5 j hj; have h9 := v1.lt; omega))
    clear v1 v2 v3 v4 v5 v6 hB5 hbW5 hb35 hb05 hS5 hT5 hi5 hj5 hb5 hqn hbn H3 HW3
    go_wp2_with fail
    refine k3.mono ?_
    rintro e w7 ⟨cp, rn, rc, cw, wn, wc, rfl, hrn, hwn, hS7, hT7, hi7, hj7, hb7⟩
    clear k3
    obtain ⟨cb, hcb⟩ : ∃ cb, w7.heap.size = cb := ⟨_, rfl⟩
    obtain ⟨W0, hW0⟩ : ∃ W0, w7.alloc (.cells #[.slice cp rn rc, .slice cw wn wc] 32) = W0 := ⟨_, rfl⟩
    have hB7 := BoxAt.new w7 [.slice cp rn rc, .slice cw wn wc] 32
    rw [show w7.alloc (.cells [.slice cp rn rc, .slice cw wn wc].toArray 32) = W0 from hW0, hcb] at hB7
    have hbW0 : Below w7.heap.size w7 W0 := by rw [← hW0]; exact (Below.refl _ _).alloc (Nat.le_refl _) _
    obtain ⟨v1, v2, v3, v4, v5, v6, v7, v8⟩ := H5.out
    have hb57 := hb7.trans (hbW0.mono hb7.size)
    obtain ⟨PA, hPA⟩ : ∃ PA, flatP A.1 = PA := ⟨_, rfl⟩
    obtain ⟨PB, hPB⟩ : ∃ PB, flatP B.1 = PB := ⟨_, rfl⟩
    obtain ⟨PC, hPC⟩ : ∃ PC, flatP C.1 = PC := ⟨_, rfl⟩
    obtain ⟨lo, hlo⟩ : ∃ lo, W0.heap.size = lo := ⟨_, rfl⟩
    have s1 := v1.below hb57
    have s3 := v3.below hb57
    have s4 := v4.below hb57
    have s6 := v6.below hb57
    have s7 := v7.below hb57
    have s8 := hS7.below hbW0
    have s9 := hT7.below hbW0
    rw [hPA] at s4
    rw [hPB] at s7
    rw [hPC] at s8
    have hrl := v1.lt
    have h57 := hb57.size
    have hrbl : rb < lo := by omega
    have l5 := v3.lt
    have l6 := v6.lt
    have hrw : w.heap.size < W5.heap.size := by omega
    have hrab : rb ≠ ab := fun e => by
      have h1 := (v1.get 1 _ rfl).1
      have h2 := a1
      rw [e, h2] at h1
      injection h1 with h1; injection h1 with _ h1 _
      have := HL.out.2.2.2.2.2.2.2; have := Nat.two_pow_pos d; omega
    have hrbb : rb ≠ bb := fun e => by
      have h1 := (v1.get 1 _ rfl).1
      have h2 := b1
      rw [e, h2] at h1
      injection h1 with h1; injection h1 with _ h1 _
      have := HL.out.2.2.2.2.2.2.2; have := Nat.two_pow_pos d; omega
    have h75 := hb7.size
    have hrcb : rb ≠ cb := by omega
    have lc := hB7.lt
    have hpb : pn ≤ 200 := by rw [← v5, flatP_length, HL.out.1]; have := HL.out.2.2.2.2.1; omega
    have hqb : qn ≤ 200 := by rw [← v8, flatP_length, HL.out.2.1]; have := HL.out.2.2.2.2.1; omega
    have hrnb : rn ≤ 400 := by rw [← hrn, flatP_length, HL.out.2.2.1]; have := HL.out.2.2.2.1.2; omega
    have HS := hidq (fun W (hW : But (fun j => j = rb ∨ lo ≤ j) W0 W) => (show SlAt 1 W ap pc pn (vals PA) ∧ SlAt 1 W bp qc qn (vals PB) ∧ SlAt 1 W cp rc rn (vals PC) from by
      refine ⟨s4.but hW (fun j hj e => ?_), s7.but hW (fun j hj e => ?_), s8.but hW (fun j hj e => ?_)⟩
      · rcases e with e | e
        · exact NA.out j hj e
        · have := s4.lt j hj; omega
      · rcases e with e | e
        · exact NB.out j hj e
        · have := s7.lt j hj; omega
      · rcases e with e | e
        · have := hi7 j hj; omega
        · have := s8.lt j hj; omega))
    have FX := hidq (fun W (hW : But (fun j => j = rb ∨ lo ≤ j) W0 W) => (show W.cell? ⟨ab, 0, none⟩ = some (.slice ap pn pc) ∧ W.cell? ⟨bb, 0, none⟩ = some (.slice bp qn qc) ∧ W.cell? ⟨cb, 0, none⟩ = some (.slice cp rn rc) ∧ W.cell? ⟨cb, 1, none⟩ = some (.slice cw wn wc) from by
      have x3 := s3.but hW (fun e => e.elim (fun e => hrab e.symm) (fun e => by omega))
      have x6 := s6.but hW (fun e => e.elim (fun e => hrbb e.symm) (fun e => by omega))
      have x7 := hB7.but hW (fun e => e.elim (fun e => hrcb e.symm) (fun e => by omega))
      exact ⟨(x3.get 0 _ rfl).1, (x6.get 0 _ rfl).1, (x7.get 0 _ rfl).1, (x7.get 1 _ rfl).1⟩))
    have HB0 := hidq s1
    have HF : ∀ (x : Nat) (w w' : World), Below w.heap.size w w' → ((x ≤ 2 → BoxAt w rb [.slice none 0 0, .slice none 0 0]) ∧ (x = 3 → CEnd rb lo (pn + qn + rn) cw wn wc (PA ++ PB ++ PC) w)) → ((x ≤ 2 → BoxAt w' rb [.slice none 0 0, .slice none 0 0]) ∧ (x = 3 → CEnd rb lo (pn + qn + rn) cw wn wc (PA ++ PB ++ PC) w')) :=
      fun _ _ _ hB h => ⟨fun e => (h.1 e).below hB, fun e => (h.2 e).below hB⟩
    have HT := hidq (And.intro v2 (And.intro hb57 (And.intro s9 (And.intro hj7 (And.intro hPA (And.intro hPB (And.intro hPC (And.intro v5 (And.intro v8 (And.intro hrn hwn))))))))))
    have HW0 := hidq hW0
    have hs57 : W5.heap.size ≤ lo := by omega
    have hwr : w.heap.size ≤ rb := by omega
    clear v1 v2 v3 v4 v5 v6 v7 v8 s1 s3 s4 s6 s7 s8 s9 hB7 hbW0 hb57 hPA hPB hPC hS7 hT7 hi7 hj7 hb7 hrn hwn hrl h57 l5 l6 hrab hrbb hrcb lc h75 hW0 a1 b1 hal hbl H5 NA NB hW5
    go_wp2_with fail
    rw [HW0.out]
    clear HW0
    refine Reg.wp_region_ghost (Reg.gofList (rcount6R ab bb cb rb lo pn pc qn qc rn rc wn wc ap bp cp cw PA PB PC)) (Reg.PPres (fun j => j = rb ∨ lo ≤ j)) (Reg.PInv [6, 9, 13] (fun j => j = rb ∨ lo ≤ j) W0 (fun x w => (x ≤ 2 → BoxAt w rb [.slice none 0 0, .slice none 0 0]) ∧ (x = 3 → CEnd rb lo (pn + qn + rn) cw wn wc (PA ++ PB ++ PC) w))) 0 (by kernel_rfl) (by kernel_rfl) (Reg.GAllKept.at _ (rcount6R_kept ab bb cb rb lo pn pc qn qc rn rc wn wc ap bp cp cw PA PB PC)) (Reg.PInv.start 14 ⟨fun _ => HB0.out.drew, (fun e => by cases e)⟩) ⟨?_, ?_, ?_, ?_, ?_, ?_, ?_, ?_, ?_, ?_, ?_, ?_, ?_, ?_, trivial⟩ ?_
    · refine Reg.GStepAt.plain (i := 0) rfl ?_
      intro x L ev w hI hk hp hA
      have hcc := hA.const
      clear hA hp
      have hSz := hI.2.1.size
      refine Reg.out_new (v := .slice (some ⟨w.heap.size, 0, none⟩) 0 0) (w' := w.alloc (.cells #[] 3)) ?_ ⟨x, ⟨w.heap.size, rfl, by simp, by omega⟩, Reg.PPres.light ((Below.refl _ _).alloc (Nat.le_refl _) _), Reg.PInv.light HF hI 0 (by decide) ((Below.refl _ _).alloc (Nat.le_refl _) _)⟩
      clear hI hk
      go_simp
    · refine Reg.GStepAt.plain (i := 1) rfl ?_
      intro x L ev w hI hk hp hA
      have e5 : ev (.tmp 5) = .pointer (some ⟨ab, 0, none⟩) := hA.oldNone 5 (by kernel_rfl)
      have hcc := hA.const
      clear hA hp
      refine Reg.out_value (v := .pointer (some ⟨ab, 0, none⟩)) ?_ ⟨x, rfl, Reg.PPres.refl _ _ _, Reg.PInv.light HF hI 1 (by decide) (Below.refl _ _)⟩
      go_simp
    · refine Reg.GStepAt.plain (i := 2) rfl ?_
      intro x L ev w hI hk hp hA
      have e31 : ev (.tmp 31) = .pointer (some ⟨ab, 0, none⟩) := hA.val 1 _ 31 rfl (hp ⟨1, .data⟩ (by simp) rfl) rfl
      have hcc := hA.const
      clear hA hp
      obtain ⟨f1, f2, f3, f4⟩ := FX.out w hI.2.1
      refine Reg.out_value (v := .slice ap pn pc) ?_ ⟨x, rfl, Reg.PPres.refl _ _ _, Reg.PInv.light HF hI 2 (by decide) (Below.refl _ _)⟩
      go_simp
    · refine Reg.GStepAt.plain (i := 3) rfl ?_
      intro x L ev w hI hk hp hA
      have e30 : (fun v _ w => ∃ g, v = .slice (some ⟨g, 0, none⟩) 0 0 ∧ g < w.heap.size ∧ lo ≤ g) (ev (.tmp 30)) x w := hA.val 0 _ 30 rfl (hp ⟨0, .data⟩ (by simp) rfl) rfl
      have e32 : ev (.tmp 32) = .slice ap pn pc := hA.val 2 _ 32 rfl (hp ⟨2, .data⟩ (by simp) rfl) rfl
      have hcc := hA.const
      clear hA hp
      obtain ⟨g0, e30, h30, h31⟩ := e30
      have hSz := hI.2.1.size
      obtain ⟨g', c', w', hrun, hF', hb', hg'⟩ := fresh_append plainN 24 w g0 (flat_nil h30) (.slice ap pn pc) pn (vals PA) ((HS.out w hI.2.1).1.src Try.underlying24) (by omega)
      refine Reg.out_new (v := .slice (some ⟨g', 0, none⟩) pn c') (w' := w') ?_ ⟨x, ⟨g', c', rfl, ⟨hg'.elim (fun e => by omega) (fun h => by omega), Nat.zero_le _⟩, fun _ => hF'⟩, Reg.PPres.light hb', Reg.PInv.light HF hI 3 (by decide) hb'⟩
      simp [execOp, resolve, invoke, builtin, e30, e32, hrun, Result.andThen]
    · refine Reg.GStepAt.plain (i := 4) rfl ?_
      intro x L ev w hI hk hp hA
      have e6 : ev (.tmp 6) = .pointer (some ⟨bb, 0, none⟩) := hA.oldNone 6 (by kernel_rfl)
      have hcc := hA.const
      clear hA hp
      refine Reg.out_value (v := .pointer (some ⟨bb, 0, none⟩)) ?_ ⟨x, rfl, Reg.PPres.refl _ _ _, Reg.PInv.light HF hI 4 (by decide) (Below.refl _ _)⟩
      go_simp
    · refine Reg.GStepAt.plain (i := 5) rfl ?_
      intro x L ev w hI hk hp hA
      have e34 : ev (.tmp 34) = .pointer (some ⟨bb, 0, none⟩) := hA.val 4 _ 34 rfl (hp ⟨4, .data⟩ (by simp) rfl) rfl
      have hcc := hA.const
      clear hA hp
      obtain ⟨f1, f2, f3, f4⟩ := FX.out w hI.2.1
      refine Reg.out_value (v := .slice bp qn qc) ?_ ⟨x, rfl, Reg.PPres.refl _ _ _, Reg.PInv.light HF hI 5 (by decide) (Below.refl _ _)⟩
      go_simp
    · refine Reg.GStepAt.plain (i := 6) rfl ?_
      intro x L ev w hI hk hp hA
      have e33 : (fun v x w => ∃ g c, v = .slice (some ⟨g, 0, none⟩) pn c ∧ (lo ≤ g ∧ 0 ≤ x) ∧ (x = 0 → Flat 1 w g c pn (vals PA))) (ev (.tmp 33)) x w := hA.val 3 _ 33 rfl (hp ⟨3, .data⟩ (by simp) rfl) rfl
      have e35 : ev (.tmp 35) = .slice bp qn qc := hA.val 5 _ 35 rfl (hp ⟨5, .data⟩ (by simp) rfl) rfl
      have hcc := hA.const
      have NL := Reg.not_listed hA 6 9 _ rfl ⟨6, .data⟩ (by simp) rfl hk
      have NL2 := Reg.not_listed hA 6 13 _ rfl ⟨6, .phase⟩ (by simp) rfl hk
      clear hA hp
      have hx0 : x = 0 := hI.1.trans (Reg.cnt_zero3 (Reg.getD_true hk) NL NL2)
      obtain ⟨g0, c0, e33, h40, h41⟩ := e33
      have q2 := h41 hx0
      have hSz := hI.2.1.size
      obtain ⟨g', c', w', hrun, hF', hb', hg'⟩ := flat_app plainN 24 w g0 c0 pn (vals PA) q2 (.slice bp qn qc) qn (vals PB) ((HS.out w hI.2.1).2.1.src Try.underlying24) (by omega)
      have hbS : But (fun j => j = rb ∨ lo ≤ j) w w' := hb'.mono (fun j _ e => .inr (by omega))
      have hgl : lo ≤ g' := hg'.elim (fun e => by omega) (fun h => by omega)
      refine Reg.out_new (v := .slice (some ⟨g', 0, none⟩) (pn + qn) c') (w' := w') ?_ ⟨x + 1, ⟨g', c', rfl, ⟨hgl, by omega⟩, fun _ => by rw [vals_append]; exact hF'⟩, Reg.PPres.heavy hbS, Reg.PInv.heavy hI 6 (by decide) (by simp) hk hbS ⟨fun e => (hI.2.2.1 (by omega)).but hb' (by omega), fun e => by omega⟩⟩
      simp [execOp, resolve, invoke, builtin, e33, e35, hrun, Result.andThen]
    · refine Reg.GStepAt.plain (i := 7) rfl ?_
      intro x L ev w hI hk hp hA
      have e7 : ev (.tmp 7) = .pointer (some ⟨cb, 0, none⟩) := hA.oldNone 7 (by kernel_rfl)
      have hcc := hA.const
      clear hA hp
      refine Reg.out_value (v := .pointer (some ⟨cb, 0, none⟩)) ?_ ⟨x, rfl, Reg.PPres.refl _ _ _, Reg.PInv.light HF hI 7 (by decide) (Below.refl _ _)⟩
      go_simp
    · refine Reg.GStepAt.plain (i := 8) rfl ?_
      intro x L ev w hI hk hp hA
      have e37 : ev (.tmp 37) = .pointer (some ⟨cb, 0, none⟩) := hA.val 7 _ 37 rfl (hp ⟨7, .data⟩ (by simp) rfl) rfl
      have hcc := hA.const
      clear hA hp
      obtain ⟨f1, f2, f3, f4⟩ := FX.out w hI.2.1
      refine Reg.out_value (v := .slice cp rn rc) ?_ ⟨x, rfl, Reg.PPres.refl _ _ _, Reg.PInv.light HF hI 8 (by decide) (Below.refl _ _)⟩
      go_simp
    · refine Reg.GStepAt.plain (i := 9) rfl ?_
      intro x L ev w hI hk hp hA
      have e36 : (fun v x w => ∃ g c, v = .slice (some ⟨g, 0, none⟩) (pn + qn) c ∧ (lo ≤ g ∧ 1 ≤ x) ∧ (x = 1 → Flat 1 w g c (pn + qn) (vals (PA ++ PB)))) (ev (.tmp 36)) x w := hA.val 6 _ 36 rfl (hp ⟨6, .data⟩ (by simp) rfl) rfl
      have e38 : ev (.tmp 38) = .slice cp rn rc := hA.val 8 _ 38 rfl (hp ⟨8, .data⟩ (by simp) rfl) rfl
      have hcc := hA.const
      have L6 : L.getD 6 false = true := hp ⟨6, .data⟩ (by simp) rfl
      have NL2 := Reg.not_listed hA 9 13 _ rfl ⟨9, .phase⟩ (by simp) rfl hk
      clear hA hp
      have hx0 : x = 1 := hI.1.trans (Reg.cnt_one3 L6 (Reg.getD_true hk) NL2)
      obtain ⟨g0, c0, e36, h40, h41⟩ := e36
      have q2 := h41 hx0
      have hSz := hI.2.1.size
      obtain ⟨g', c', w', hrun, hF', hb', hg'⟩ := flat_app plainN 24 w g0 c0 (pn + qn) (vals (PA ++ PB)) q2 (.slice cp rn rc) rn (vals PC) ((HS.out w hI.2.1).2.2.src Try.underlying24) (by omega)
      have hbS : But (fun j => j = rb ∨ lo ≤ j) w w' := hb'.mono (fun j _ e => .inr (by omega))
      have hgl : lo ≤ g' := hg'.elim (fun e => by omega) (fun h => by omega)
      refine Reg.out_new (v := .slice (some ⟨g', 0, none⟩) (pn + qn + rn) c') (w' := w') ?_ ⟨x + 1, ⟨g', c', rfl, ⟨hgl, by omega⟩, fun _ => by rw [vals_append]; exact hF'⟩, Reg.PPres.heavy hbS, Reg.PInv.heavy hI 9 (by decide) (by simp) hk hbS ⟨fun e => (hI.2.2.1 (by omega)).but hb' (by omega), fun e => by omega⟩⟩
      simp [execOp, resolve, invoke, builtin, e36, e38, hrun, Result.andThen]
    · refine Reg.GStepAt.plain (i := 10) rfl ?_
      intro x L ev w hI hk hp hA
      have e7 : ev (.tmp 7) = .pointer (some ⟨cb, 0, none⟩) := hA.oldNone 7 (by kernel_rfl)
      have hcc := hA.const
      clear hA hp
      refine Reg.out_value (v := .pointer (some ⟨cb, 1, none⟩)) ?_ ⟨x, rfl, Reg.PPres.refl _ _ _, Reg.PInv.light HF hI 10 (by decide) (Below.refl _ _)⟩
      go_simp
    · refine Reg.GStepAt.plain (i := 11) rfl ?_
      intro x L ev w hI hk hp hA
      have e40 : ev (.tmp 40) = .pointer (some ⟨cb, 1, none⟩) := hA.val 10 _ 40 rfl (hp ⟨10, .data⟩ (by simp) rfl) rfl
      have hcc := hA.const
      clear hA hp
      obtain ⟨f1, f2, f3, f4⟩ := FX.out w hI.2.1
      refine Reg.out_value (v := .slice cw wn wc) ?_ ⟨x, rfl, Reg.PPres.refl _ _ _, Reg.PInv.light HF hI 11 (by decide) (Below.refl _ _)⟩
      go_simp
    · refine Reg.GStepAt.plain (i := 12) rfl ?_
      intro x L ev w hI hk hp hA
      have e39 : (fun v x w => ∃ g c, v = .slice (some ⟨g, 0, none⟩) (pn + qn + rn) c ∧ (lo ≤ g ∧ 2 ≤ x) ∧ (x = 2 → Flat 1 w g c (pn + qn + rn) (vals (PA ++ PB ++ PC)))) (ev (.tmp 39)) x w := hA.val 9 _ 39 rfl (hp ⟨9, .data⟩ (by simp) rfl) rfl
      have e41 : ev (.tmp 41) = .slice cw wn wc := hA.val 11 _ 41 rfl (hp ⟨11, .data⟩ (by simp) rfl) rfl
      have hcc := hA.const
      clear hA hp
      obtain ⟨g, c, e39, h1, h2⟩ := e39
      refine Reg.out_value (v := .agg #[.slice (some ⟨g, 0, none⟩) (pn + qn + rn) c, .slice cw wn wc]) ?_ ⟨x, ⟨g, c, rfl, h1, h2⟩, Reg.PPres.refl _ _ _, Reg.PInv.light HF hI 12 (by decide) (Below.refl _ _)⟩
      clear hI hk h2
      go_simp
    · refine Reg.GStepAt.plain (i := 13) rfl ?_
      intro x L ev w hI hk hp hA
      have e4 : ev (.tmp 4) = .pointer (some ⟨rb, 0, none⟩) := hA.oldNone 4 (by kernel_rfl)
      have e42 : (fun v x w => ∃ g c, v = .agg #[.slice (some ⟨g, 0, none⟩) (pn + qn + rn) c, .slice cw wn wc] ∧ (lo ≤ g ∧ 2 ≤ x) ∧ (x = 2 → Flat 1 w g c (pn + qn + rn) (vals (PA ++ PB ++ PC)))) (ev (.tmp 42)) x w := hA.val 12 _ 42 rfl (hp ⟨12, .data⟩ (by simp) rfl) rfl
      have hcc := hA.const
      have L6 : L.getD 6 false = true := hp ⟨6, .phase⟩ (by simp) rfl
      have L9 : L.getD 9 false = true := hp ⟨9, .chain⟩ (by simp) rfl
      clear hA hp
      have hx2 : x = 2 := hI.1.trans (Reg.cnt_two3 L6 L9 (Reg.getD_true hk))
      have hBx := hI.2.2.1 (by omega)
      obtain ⟨g, c, e42, q1, q2⟩ := e42
      have r2 := q2 hx2
      obtain ⟨c0, y0⟩ := hBx.get 0 _ rfl
      obtain ⟨c1, y1⟩ := hBx.get 1 _ rfl
      have hb1 : But (fun j => j = rb) w (w.setCells rb 0 [.slice (some ⟨g, 0, none⟩) (pn + qn + rn) c, .slice cw wn wc]) := but_setCells _ _ _ _ _ (But.refl _ _)
      have hbS : But (fun j => j = rb ∨ lo ≤ j) w (w.setCells rb 0 [.slice (some ⟨g, 0, none⟩) (pn + qn + rn) c, .slice cw wn wc]) := hb1.mono (fun j _ e => .inl e)
      have hbx : BoxAt (w.setCells rb 0 [.slice (some ⟨g, 0, none⟩) (pn + qn + rn) c, .slice cw wn wc]) rb [.slice (some ⟨g, 0, none⟩) (pn + qn + rn) c, .slice cw wn wc] := box_cells hBx rfl
      refine Reg.out_skipP (w' := w.setCells rb 0 [.slice (some ⟨g, 0, none⟩) (pn + qn + rn) c, .slice cw wn wc]) ?_ ⟨x + 1, trivial, Reg.PPres.heavy hbS, Reg.PInv.heavy hI 13 (by decide) (by simp) hk hbS ⟨fun e => by omega, fun _ => ⟨g, c, hbx, r2.but hb1 (by omega), q1.1⟩⟩⟩
      clear hI hbS hb1 hbx hBx r2 q2
      go_simp
      rfl
    intro gx L act wz hall hI hF
    have g30 : (fun v _ w => ∃ g, v = .slice (some ⟨g, 0, none⟩) 0 0 ∧ g < w.heap.size ∧ lo ≤ g) (act.eval (.tmp 30)) gx wz := hF.val 0 _ 30 rfl (hall 0 (by simp)) rfl
    have g31 : act.eval (.tmp 31) = .pointer (some ⟨ab, 0, none⟩) := hF.val 1 _ 31 rfl (hall 1 (by simp)) rfl
    have g32 : act.eval (.tmp 32) = .slice ap pn pc := hF.val 2 _ 32 rfl (hall 2 (by simp)) rfl
    have g33 : (fun v x w => ∃ g c, v = .slice (some ⟨g, 0, none⟩) pn c ∧ (lo ≤ g ∧ 0 ≤ x) ∧ (x = 0 → Flat 1 w g c pn (vals PA))) (act.eval (.tmp 33)) gx wz := hF.val 3 _ 33 rfl (hall 3 (by simp)) rfl
    have g34 : act.eval (.tmp 34) = .pointer (some ⟨bb, 0, none⟩) := hF.val 4 _ 34 rfl (hall 4 (by simp)) rfl
    have g35 : act.eval (.tmp 35) = .slice bp qn qc := hF.val 5 _ 35 rfl (hall 5 (by simp)) rfl
    have g36 : (fun v x w => ∃ g c, v = .slice (some ⟨g, 0, none⟩) (pn + qn) c ∧ (lo ≤ g ∧ 1 ≤ x) ∧ (x = 1 → Flat 1 w g c (pn + qn) (vals (PA ++ PB)))) (act.eval (.tmp 36)) gx wz := hF.val 6 _ 36 rfl (hall 6 (by simp)) rfl
    have g37 : act.eval (.tmp 37) = .pointer (some ⟨cb, 0, none⟩) := hF.val 7 _ 37 rfl (hall 7 (by simp)) rfl
    have g38 : act.eval (.tmp 38) = .slice cp rn rc := hF.val 8 _ 38 rfl (hall 8 (by simp)) rfl
    have g39 : (fun v x w => ∃ g c, v = .slice (some ⟨g, 0, none⟩) (pn + qn + rn) c ∧ (lo ≤ g ∧ 2 ≤ x) ∧ (x = 2 → Flat 1 w g c (pn + qn + rn) (vals (PA ++ PB ++ PC)))) (act.eval (.tmp 39)) gx wz := hF.val 9 _ 39 rfl (hall 9 (by simp)) rfl
    have g40 : act.eval (.tmp 40) = .pointer (some ⟨cb, 1, none⟩) := hF.val 10 _ 40 rfl (hall 10 (by simp)) rfl
    have g41 : act.eval (.tmp 41) = .slice cw wn wc := hF.val 11 _ 41 rfl (hall 11 (by simp)) rfl
    have g42 : (fun v x w => ∃ g c, v = .agg #[.slice (some ⟨g, 0, none⟩) (pn + qn + rn) c, .slice cw wn wc] ∧ (lo ≤ g ∧ 2 ≤ x) ∧ (x = 2 → Flat 1 w g c (pn + qn + rn) (vals (PA ++ PB ++ PC)))) (act.eval (.tmp 42)) gx wz := hF.val 12 _ 42 rfl (hall 12 (by simp)) rfl
    have hact := hF.act [30, 31, 32, 33, 34, 35, 36, 37, 38, 39, 40, 41, 42] (by kernel_rfl)
    obtain ⟨hxz, hBz, hFz⟩ := Reg.PInv.done hI (fun j hj => hall j (by simp at hj ⊢; omega))
    clear hF hall
    simp only [List.foldl_cons, List.foldl_nil] at hact
    rw [g31, g32, g34, g35, g37, g38, g40, g41] at hact
    clear g31 g32 g34 g35 g37 g38 g40 g41
    generalize act.eval (.tmp 30) = u30 at hact g30
    generalize act.eval (.tmp 33) = u33 at hact g33
    generalize act.eval (.tmp 36) = u36 at hact g36
    generalize act.eval (.tmp 39) = u39 at hact g39
    generalize act.eval (.tmp 42) = u42 at hact g42
    simp only [List.setIfInBounds_toArray, List.set_cons_succ, List.set_cons_zero] at hact
    subst hact
    obtain ⟨g, c, z1, z2, z3⟩ := hFz.2 rfl
    obtain ⟨v2, hb57, s9, hj7, hPA, hPB, hPC, v5, v8, hrn, hwn⟩ := HT.out
    have q0 := (z1.get 0 _ rfl).1
    have q1 := (z1.get 1 _ rfl).1
    have hs5 := v2.size
    have HEnd := hidq (show NetEnd (A.1 ++ B.1 ++ C.1) C.2 w (.returned (.agg #[.slice (some ⟨g, 0, none⟩) (pn + qn + rn) c, .slice cw wn wc])) wz from
      ⟨_, _, _, _, _, _, rfl, by rw [flatP_append, flatP_append, List.length_append, List.length_append, v5, v8, hrn], hwn, .inr ⟨g, rfl, by rw [flatP_append, flatP_append, hPA, hPB, hPC]; exact z2⟩,
        s9.but hBz (fun j hj e => e.elim (fun e => by have := hj7 j hj; omega) (fun e => by have := s9.lt j hj; omega)),
        (fun j e => by obtain ⟨q, hq, rfl⟩ := e; cases hq; show w.heap.size ≤ g; omega), (fun j hj => by have := hj7 j hj; omega),
        (v2.trans (hb57.mono hs5)).trans (hBz.below (by have := hb57.size; omega) (fun j hj => by rcases hj with e | e <;> omega))⟩)
    clear hFz hBz hI hxz g30 g33 g36 g39 g42 HF HS FX HB0 HT z1 z2 z3 v2 hb57 s9 hj7 hPA hPB hPC v5 v8 hrn hwn hs5
    go_wp2_with fail
    exact bodyPost_ret (v := .agg #[.slice (some ⟨g, 0, none⟩) (pn + qn + rn) c, .slice cw wn wc]) (by simp [results, Try.results11, go_sem, q0, q1]) rfl HEnd.out
end Go.Proofs.Ytgkcbihpojkfaaa

namespace Go.Proofs.Ytgkcbihpojkfaaa
open Go.RowKit

theorem rinto_any (d n : Int) (w : World) (hn : n ≤ 9223372036854775807) :
    Calls Try.prog 16 #[.int .i64 d, .int .i64 n] w fun e w' => e = .returned (.int .i64 (into d n)) ∧ w' = w := by
  by_cases h : n < 1
  · rw [into_lo h]
    go_enter Try.func16, Try.ntmps16
    go_wp2
    go_ret
    exact ⟨rfl, rfl⟩
  · rw [into_hi h]
    have h1 : decide (n < 1) = false := decide_eq_false h
    have hn0 : (n == 0) = false := by simp; omega
    have hn1 : 1 ≤ n := by omega
    by_cases hm : d.tmod n < 0
    · have e1 := tmod_emod_neg hn1 hm
      have e2 := Int.lt_tmod_of_pos d (show 0 < n by omega)
      have hw : wrap64 (d.tmod n + n) = d % n := by unfold wrap64; omega
      have HW : Hid (∀ _ : Unit, wrap64 (d.tmod n + n) = d % n) := fun _ => hw
      clear e1 hw e2
      go_enter Try.func16, Try.ntmps16
      go_wp2
      go_ret
      exact ⟨by rw [← HW ()]; rfl, rfl⟩
    · have e1 : d.tmod n = d % n := tmod_emod_nonneg hn1 (by omega)
      have HW : Hid (∀ _ : Unit, d.tmod n = d % n) := fun _ => e1
      have hm1 : decide (d.tmod n < 0) = false := decide_eq_false hm
      clear e1
      go_enter Try.func16, Try.ntmps16
      go_wp2
      go_ret
      exact ⟨by rw [← HW ()]; rfl, rfl⟩

/-- The reference's Legal at a kind that is no Net. -/
theorem rlegal_any (k p : Int) (w : World) (hk : 1 ≤ k ∧ k ≤ 3) : Calls Try.prog 10 #[.int .i64 k, .int .i64 p] w fun e w' => e = .returned (.int .i64 (legal k p)) ∧ w' = w := by
  have hk1 : decide (k < 1) = false := decide_eq_false (by omega)
  have hk2 : decide (4 < k) = false := decide_eq_false (by omega)
  have hk4 : (k == 4) = false := by simp; omega
  by_cases hp : p < 1
  · rw [legal_par (by omega) (by omega)]
    clear hk
    go_enter Try.func10, Try.ntmps10
    go_wp2
    go_ret
    exact ⟨rfl, rfl⟩
  · have hp1 : decide (p < 1) = false := decide_eq_false hp
    by_cases hq : 16 < p
    · rw [legal_par (by omega) (by omega)]
      clear hk hp
      go_enter Try.func10, Try.ntmps10
      go_wp2
      go_ret
      exact ⟨rfl, rfl⟩
    · have hq1 : decide (16 < p) = false := decide_eq_false hq
      rw [legal_ok (by omega) (by omega) (by omega)]
      clear hk hp hq
      go_enter Try.func10, Try.ntmps10
      go_wp2
      go_ret
      exact ⟨rfl, rfl⟩
end Go.Proofs.Ytgkcbihpojkfaaa

namespace Go.Proofs.Ytgkcbihpojkfaaa
open Go.RowKit Go.Sort

theorem rlegal4_any (p : Int) (w : World) : Calls Try.prog 10 #[.int .i64 4, .int .i64 p] w fun e w' => e = .returned (.int .i64 (legal 4 p)) ∧ w' = w := by
  by_cases h : 1 ≤ p ∧ p ≤ 16
  · have h16 : p = 1 ∨ p = 2 ∨ p = 3 ∨ p = 4 ∨ p = 5 ∨ p = 6 ∨ p = 7 ∨ p = 8 ∨ p = 9 ∨ p = 10 ∨ p = 11 ∨ p = 12 ∨ p = 13 ∨ p = 14 ∨ p = 15 ∨ p = 16 := by omega
    rcases h16 with rfl | rfl | rfl | rfl | rfl | rfl | rfl | rfl | rfl | rfl | rfl | rfl | rfl | rfl | rfl | rfl
    all_goals
      first
        | rw [show legal 4 _ = 0 from by decide]
        | rw [show legal 4 _ = 5 from by decide]
      clear h
      go_enter Try.func10, Try.ntmps10
      go_wp2_with fail
      go_ret
      exact ⟨rfl, rfl⟩
  · rw [legal_par (by decide) h]
    by_cases h1 : p < 1
    · clear h
      go_enter Try.func10, Try.ntmps10
      go_wp2_with fail
      go_ret
      exact ⟨rfl, rfl⟩
    · have h2 : 16 < p := by omega
      have h3 : decide (p < 1) = false := decide_eq_false h1
      clear h h1
      go_enter Try.func10, Try.ntmps10
      go_wp2_with fail
      go_ret
      exact ⟨rfl, rfl⟩
theorem legal4_cases (p : Int) : legal 4 p = 5 ∨ (legal 4 p = 0 ∧ ∃ d : Nat, d ≤ 4 ∧ p = ((2 ^ d : Nat) : Int)) := by
  by_cases h : 1 ≤ p ∧ p ≤ 16
  · by_cases h2 : pow2 p = false
    · exact .inl (legal_net (by decide) h ⟨rfl, h2⟩)
    · refine .inr ⟨legal_ok (by decide) h (fun e => h2 e.2), ?_⟩
      have h3 : p = 1 ∨ p = 2 ∨ p = 4 ∨ p = 8 ∨ p = 16 := by
        have : pow2 p = true := by cases h4 : pow2 p with | true => rfl | false => exact absurd h4 h2
        exact of_decide_eq_true this
      rcases h3 with rfl | rfl | rfl | rfl | rfl
      · exact ⟨0, by decide, rfl⟩
      · exact ⟨1, by decide, rfl⟩
      · exact ⟨2, by decide, rfl⟩
      · exact ⟨3, by decide, rfl⟩
      · exact ⟨4, by decide, rfl⟩
  · exact .inl (legal_par (by decide) h)

set_option maxRecDepth 20000 in
set_option maxHeartbeats 4000000 in
theorem make_no (p : Int) (w : World) (h : legal 4 p = 5) : Calls Try.prog 9 #[.int .i64 p] w fun e w' => e = .returned (.tuple #[.agg #[.int .i64 0, .slice none 0 0, .slice none 0 0], .int .i64 5]) ∧ Below w.heap.size w w' := by
  have hL := legal_any 4 p (w.alloc (.cells #[.int .i64 0, .slice none 0 0, .slice none 0 0] 26))
  rw [h] at hL
  have hB0 := BoxAt.new w [.int .i64 0, .slice none 0 0, .slice none 0 0] 26
  have hb0 : Below w.heap.size w (w.alloc (.cells #[.int .i64 0, .slice none 0 0, .slice none 0 0] 26)) := (Below.refl _ _).alloc (Nat.le_refl _) _
  have H0 := hidq (And.intro hB0 hb0)
  clear h hB0 hb0
  go_enter Try.func9, Try.ntmps9
  go_wp2_with fail
  refine hL.mono ?_
  rintro e w1 ⟨rfl, hb1⟩
  clear hL
  obtain ⟨rb, hrb⟩ : ∃ rb, w.heap.size = rb := ⟨_, rfl⟩
  obtain ⟨hB0, hb0⟩ := H0.out
  have hB1 := hB0.below hb1
  rw [hrb] at hB1
  have hb01 : Below w.heap.size w w1 := hb0.trans (hb1.mono (by simp))
  obtain ⟨d0, y0⟩ := hB1.get 0 _ rfl
  obtain ⟨d1, y1⟩ := hB1.get 1 _ rfl
  obtain ⟨d2, y2⟩ := hB1.get 2 _ rfl
  have hrl : rb < w1.heap.size := hB1.lt
  obtain ⟨W9, hW9⟩ : ∃ W9, ((w1.setCell ⟨rb, 0, none⟩ (.int .i64 0)).setCell ⟨rb, 1, none⟩ (.slice none 0 0)).setCell ⟨rb, 2, none⟩ (.slice none 0 0) = W9 := ⟨_, rfl⟩
  have hB9 : BoxAt W9 rb [.int .i64 0, .slice none 0 0, .slice none 0 0] := by rw [← hW9]; exact box_cells (cs := [.int .i64 0, .slice none 0 0, .slice none 0 0]) hB1 rfl
  have hb9 : But (fun j => j = rb) w1 W9 := by rw [← hW9]; exact but_setCells rb [.int .i64 0, .slice none 0 0, .slice none 0 0] 0 w1 w1 (But.refl _ _)
  have q0 := (hB9.get 0 _ rfl).1
  have q1 := (hB9.get 1 _ rfl).1
  have q2 := (hB9.get 2 _ rfl).1
  have HEnd := hidq (hb01.trans (hb9.below hb01.size (fun j hj => by omega)))
  have HW9 := hidq hW9
  clear hB0 hb0 hB1 hb1 H0 hb01 hB9 hb9 hW9
  go_wp2_with fail
  rw [HW9.out]
  exact bodyPost_ret (v := .tuple #[.agg #[.int .i64 0, .slice none 0 0, .slice none 0 0], .int .i64 5]) (by simp [results, Try.results9, go_sem, q0, q1, q2]) rfl ⟨rfl, HEnd.out⟩
end Go.Proofs.Ytgkcbihpojkfaaa

namespace Go.Proofs.Ytgkcbihpojkfaaa
open Go.RowKit Go.Sort

theorem tok_len : ∀ (gs : List (Nat × Nat)) (cs : List Nat) (v : Nat), (Wr.tok gs cs v).1.length = cs.length
  | [], _, _ => rfl
  | _ :: _, [], _ => rfl
  | g :: gs, c :: cs, v => by
    unfold Wr.tok
    split
    · show (_ :: (Wr.tok gs cs _).1).length = _; rw [List.length_cons, tok_len gs cs]; rfl
    · show (_ :: (Wr.tok gs cs _).1).length = _; rw [List.length_cons, tok_len gs cs]; rfl
theorem tok_snoc : ∀ (gs : List (Nat × Nat)) (cs : List Nat) (v : Nat) (g : Nat × Nat) (c : Nat), gs.length = cs.length →
    Wr.tok (gs ++ [g]) (cs ++ [c]) v = if g.1 = (Wr.tok gs cs v).2 ∨ g.2 = (Wr.tok gs cs v).2 then ((Wr.tok gs cs v).1 ++ [c + 1], if c % 2 = 0 then g.1 else g.2) else ((Wr.tok gs cs v).1 ++ [c], (Wr.tok gs cs v).2)
  | [], [], v, g, c, _ => by
    show Wr.tok [g] [c] v = _
    unfold Wr.tok
    split <;> rfl
  | [], _ :: _, _, _, _, h => by simp at h
  | _ :: _, [], _, _, _, h => by simp at h
  | x :: gs, y :: cs, v, g, c, h => by
    have hl : gs.length = cs.length := by simpa using h
    have ih := fun v => tok_snoc gs cs v g c hl
    show Wr.tok (x :: (gs ++ [g])) (y :: (cs ++ [c])) v = _
    by_cases hx : x.1 = v ∨ x.2 = v
    · have e1 : Wr.tok (x :: (gs ++ [g])) (y :: (cs ++ [c])) v = ((y + 1) :: (Wr.tok (gs ++ [g]) (cs ++ [c]) (if y % 2 = 0 then x.1 else x.2)).1, (Wr.tok (gs ++ [g]) (cs ++ [c]) (if y % 2 = 0 then x.1 else x.2)).2) := by rw [Wr.tok, if_pos hx]
      have e2 : Wr.tok (x :: gs) (y :: cs) v = ((y + 1) :: (Wr.tok gs cs (if y % 2 = 0 then x.1 else x.2)).1, (Wr.tok gs cs (if y % 2 = 0 then x.1 else x.2)).2) := by rw [Wr.tok, if_pos hx]
      rw [e1, e2, ih]
      dsimp only
      generalize Wr.tok gs cs (if y % 2 = 0 then x.1 else x.2) = T
      split <;> rfl
    · have e1 : Wr.tok (x :: (gs ++ [g])) (y :: (cs ++ [c])) v = (y :: (Wr.tok (gs ++ [g]) (cs ++ [c]) v).1, (Wr.tok (gs ++ [g]) (cs ++ [c]) v).2) := by rw [Wr.tok, if_neg hx]
      have e2 : Wr.tok (x :: gs) (y :: cs) v = (y :: (Wr.tok gs cs v).1, (Wr.tok gs cs v).2) := by rw [Wr.tok, if_neg hx]
      rw [e1, e2, ih]
      dsimp only
      generalize Wr.tok gs cs v = T
      split <;> rfl
/-- What has been passed, on the way. -/
def tokL (G : List (Nat × Nat)) (C : List Nat) (v i : Nat) : List Nat := (Wr.tok (G.take i) (C.take i) v).1 ++ C.drop i
def tokV (G : List (Nat × Nat)) (C : List Nat) (v i : Nat) : Nat := (Wr.tok (G.take i) (C.take i) v).2
theorem tokL_get {G : List (Nat × Nat)} {C : List Nat} {v i c : Nat} (hC : C[i]? = some c) : (tokL G C v i)[i]? = some c := by
  have hi := (List.getElem?_eq_some_iff.1 hC).1
  have hl : (Wr.tok (G.take i) (C.take i) v).1.length = i := by rw [tok_len, List.length_take]; omega
  unfold tokL
  rw [List.getElem?_append_right (by omega), hl, List.getElem?_drop, Nat.sub_self]; exact hC
theorem tok_next {G : List (Nat × Nat)} {C : List Nat} {v i c : Nat} {g : Nat × Nat} (hl : G.length = C.length) (hG : G[i]? = some g) (hC : C[i]? = some c) :
    Wr.tok (G.take (i + 1)) (C.take (i + 1)) v = if g.1 = tokV G C v i ∨ g.2 = tokV G C v i then ((Wr.tok (G.take i) (C.take i) v).1 ++ [c + 1], if c % 2 = 0 then g.1 else g.2) else ((Wr.tok (G.take i) (C.take i) v).1 ++ [c], tokV G C v i) := by
  rw [List.take_add_one, List.take_add_one, hG, hC]
  exact tok_snoc _ _ v g c (by rw [List.length_take, List.length_take, hl])
theorem tok_hit {G : List (Nat × Nat)} {C : List Nat} {v i c : Nat} {g : Nat × Nat} (hl : G.length = C.length) (hG : G[i]? = some g) (hC : C[i]? = some c) (hh : g.1 = tokV G C v i ∨ g.2 = tokV G C v i) :
    (tokL G C v i).set i (c + 1) = tokL G C v (i + 1) ∧ tokV G C v (i + 1) = if c % 2 = 0 then g.1 else g.2 := by
  have hn := tok_next (v := v) hl hG hC
  rw [if_pos hh] at hn
  have hi := (List.getElem?_eq_some_iff.1 hC).1
  have hlen : (Wr.tok (G.take i) (C.take i) v).1.length = i := by rw [tok_len, List.length_take]; omega
  refine ⟨?_, by unfold tokV; rw [hn]⟩
  unfold tokL
  rw [hn]
  dsimp only
  rw [List.set_append_right _ _ (by omega), hlen, Nat.sub_self, List.append_assoc]
  congr 1
  rw [List.drop_eq_getElem_cons hi]
  rfl
theorem tok_miss {G : List (Nat × Nat)} {C : List Nat} {v i c : Nat} {g : Nat × Nat} (hl : G.length = C.length) (hG : G[i]? = some g) (hC : C[i]? = some c) (hh : ¬ (g.1 = tokV G C v i ∨ g.2 = tokV G C v i)) :
    tokL G C v i = tokL G C v (i + 1) ∧ tokV G C v (i + 1) = tokV G C v i := by
  have hn := tok_next (v := v) hl hG hC
  rw [if_neg hh] at hn
  obtain ⟨hi, hci⟩ := List.getElem?_eq_some_iff.1 hC
  refine ⟨?_, by show (Wr.tok (G.take (i + 1)) (C.take (i + 1)) v).2 = _; rw [hn]⟩
  unfold tokL
  rw [hn]
  dsimp only
  rw [List.append_assoc]
  congr 1
  rw [List.drop_eq_getElem_cons hi, hci]
  rfl
theorem flat_is_box {w : World} {g cap n : Nat} {l : List Value} (h : Flat 1 w g cap n l) : BoxAt w g l :=
  ⟨h.lt, h.cell, fun i hi => (h.there i (by have := h.len; have := h.le; omega)).2⟩
theorem box_src {w : World} {b n cap : Nat} {l : List Nat} (h : BoxAt w b (vals l)) (hl : l.length = n) : Src Try.prog 1 24 (.slice (some ⟨b, 0, none⟩) n cap) n (vals l) w :=
  Src.ofSlice w Try.underlying24 ⟨b, 0, none⟩ n cap (vals l) (by rw [vals_length, hl, Nat.mul_one]) (fun j u hu => by rw [Addr.add_lit, Nat.zero_add]; exact h.cell j u hu) (vals_one l)
/-- How a token's way ends. -/
def TokEnd (c : Nat) (L : List Nat) (at_ : Nat) (w : World) (e : Ending) (w' : World) : Prop :=
  ∃ b cap, e = .returned (.tuple #[.slice (some ⟨b, 0, none⟩) c cap, .int .i64 (at_ : Int)]) ∧ BoxAt w' b (vals L) ∧ w.heap.size ≤ b ∧ Below w.heap.size w w'
/-- What holds between two gates. -/
def TokR (w : World) (L : List Nat) (b nb : Nat) (cs : List Value) (wr : World) : Prop :=
  BoxAt wr b (vals L) ∧ BoxAt wr nb cs ∧ Below w.heap.size w wr
theorem TokR.drewN {w : World} {L : List Nat} {b nb : Nat} {cs : List Value} {wr : World} (h : TokR w L b nb cs wr) (q : Nat) : TokR w L b nb cs (wr.drewN q) :=
  ⟨h.1.drewN q, h.2.1.drewN q, below_drewN h.2.2 q⟩
theorem TokR.hit {w : World} {L : List Nat} {b nb : Nat} {cs : List Value} {wr : World} (h : TokR w L b nb cs wr) (hb : w.heap.size ≤ b) (hn : nb ≠ b) (i v : Nat) : TokR w (L.set i v) b nb cs (wr.setCell ⟨b, i, none⟩ (.int .i64 (v : Int))) := by
  have hb1 : But (fun j => j = b) wr (wr.setCell ⟨b, i, none⟩ (.int .i64 (v : Int))) := (But.refl (fun j => j = b) wr).set1 b i rfl _
  refine ⟨?_, h.2.1.but hb1 hn, h.2.2.setCell hb _⟩
  have := h.1.set i (.int .i64 (v : Int))
  rw [vals_set] at this
  exact this

set_option maxRecDepth 20000 in
set_option maxHeartbeats 8000000 in
theorem rtoken_any (w : World) (pa wa : Option Addr) (pn pc wn wc cb c cc v0 j : Nat) (G : List (Nat × Nat)) (O C : List Nat) (hP : NsAt w pa (fun _ => False) (flatP G)) (hW : NsAt w wa (fun _ => False) O) (hC : BoxAt w cb (vals C))
    (hpn : (flatP G).length = pn) (hwn : O.length = wn) (hcl : C.length = c) (hgl : G.length = c) (hc : c ≤ 100) (hw16 : wn ≤ 16) (hCb : ∀ x ∈ C, x ≤ 1000) (hat : O[j]? = some (Wr.tok G C v0).2) (hnd : O.Nodup) :
    Calls Try.prog 17 #[.agg #[.slice pa pn pc, .slice wa wn wc], .slice (some ⟨cb, 0, none⟩) c cc, .int .i64 (v0 : Int)] w (TokEnd c (Wr.tok G C v0).1 j w) := by
  obtain ⟨nb, hnb⟩ : ∃ nb, w.heap.size = nb := ⟨_, rfl⟩
  obtain ⟨W1, hW1⟩ : ∃ W1, w.alloc (.cells #[.slice pa pn pc, .slice wa wn wc] 32) = W1 := ⟨_, rfl⟩
  have hB1 := BoxAt.new w [.slice pa pn pc, .slice wa wn wc] 32
  rw [show w.alloc (.cells [.slice pa pn pc, .slice wa wn wc].toArray 32) = W1 from hW1, hnb] at hB1
  have hb1 : Below w.heap.size w W1 := by rw [← hW1]; exact (Below.refl _ _).alloc (Nat.le_refl _) _
  have hs1 : W1.heap.size = nb + 1 := by rw [← hW1]; simp [hnb]
  obtain ⟨W2, hW2⟩ : ∃ W2, W1.alloc (.cells #[] 3) = W2 := ⟨_, rfl⟩
  have hb2 : Below W1.heap.size W1 W2 := by rw [← hW2]; exact (Below.refl _ _).alloc (Nat.le_refl _) _
  have hF2 : Flat 1 W2 (nb + 1) 0 0 [] := by have := flat_empty W1 3; rw [hW2, hs1] at this; exact this
  have hb02 : Below w.heap.size w W2 := hb1.trans (hb2.mono hb1.size)
  have HA := hidq (And.intro hF2 (box_src (cap := cc) (hC.below hb02) hcl))
  have hs2 : W2.heap.size = nb + 2 := by rw [← hW2]; simp [hs1]
  have H2 := hidq (And.intro (hB1.below hb2) hb02)
  have hG2 : 2 * c = pn := by rw [← hpn, flatP_length, hgl]
  have HX := hidq (And.intro hP (And.intro hW (And.intro hcl (And.intro hgl (And.intro hCb (And.intro hat (And.intro hnd hwn)))))))
  have eL0 : tokL G C v0 0 = C := by simp [tokL, Wr.tok]
  have eV0 : tokV G C v0 0 = v0 := by simp [tokV, Wr.tok]
  have eLc : tokL G C v0 c = (Wr.tok G C v0).1 := by unfold tokL; rw [List.take_of_length_le (by omega), List.take_of_length_le (by omega), List.drop_eq_nil_of_le (by omega), List.append_nil]
  have eVc : tokV G C v0 c = (Wr.tok G C v0).2 := by unfold tokV; rw [List.take_of_length_le (by omega), List.take_of_length_le (by omega)]
  have HE := hidq (And.intro eL0 (And.intro eV0 (And.intro eLc eVc)))
  have hjw : j < wn := by have := (List.getElem?_eq_some_iff.1 hat).1; omega
  clear hP hW hC hpn hwn hcl hgl hCb hat hnd hB1 hb1 hb2 hF2 hb02 eL0 eV0 eLc eVc
  go_enter Try.func17, Try.ntmps17
  go_wp2_with (at_builtin; refine wpList_flat plainN _ rfl (.tmp 10) (.tmp 11) rfl (nb + 1) 0 0 [] rfl HA.out.1 _ rfl c (vals C) HA.out.2 (by omega) ?_; intro b c2 w2 hF2 hb2 hg2)
  rw [Nat.zero_add] at hF2
  rw [List.nil_append] at hF2
  have hbl : w.heap.size ≤ b ∧ nb ≠ b := by omega
  have HR := hidq (show TokR w (tokL G C v0 0) b nb [.slice pa pn pc, .slice wa wn wc] w2 from
    ⟨by rw [HE.out.1]; exact flat_is_box hF2, H2.out.1.but hb2 (by omega), H2.out.2.trans (hb2.below H2.out.2.size (fun j hj => by omega))⟩)
  have HV := hidq HE.out.2.1
  clear hF2 hb2 hg2 HA H2 hW1 hW2 hs1 hs2
  try rw [Nat.zero_add]
  go_loopw [2, 8] (fun s2 s8 wr => ∃ i u : Nat, s8 = .int .i64 (i : Int) ∧ s2 = .int .i64 (u : Int) ∧ i ≤ c ∧ Hid (tokV G C v0 i = u) ∧ Hid (TokR w (tokL G C v0 i) b nb [.slice pa pn pc, .slice wa wn wc] wr)) (fun _ s8 _ => c - (intOf s8).toNat)
  case atStart => exact ⟨0, v0, rfl, rfl, Nat.zero_le _, HV, HR⟩
  case round =>
    obtain ⟨i, u, rfl, rfl, hi, hV, hR⟩ := hrel
    clear HR HV
    by_cases hlt : i < c
    · have hltI : (i : Int) < (c : Int) := by omega
      obtain ⟨hP, hW, hcl, hgl, hCb, hat, hnd, hwn⟩ := HX.out
      obtain ⟨g, hg⟩ : ∃ g, G[i]? = some g := ⟨_, List.getElem?_eq_getElem (by omega)⟩
      obtain ⟨cv, hcv⟩ : ∃ cv, C[i]? = some cv := ⟨_, List.getElem?_eq_getElem (by omega)⟩
      have hcvb : cv ≤ 1000 := hCb cv (List.mem_of_getElem? hcv)
      obtain ⟨a, a'⟩ := g
      obtain ⟨f1, f2⟩ := flatP_get _ _ _ hg
      dsimp only at f1 f2
      obtain ⟨r1, r2, r3⟩ := hR.out
      obtain ⟨pb, po, rfl, hpl, _, q1⟩ := (hP.below r3) _ _ f1
      obtain ⟨pb', po', hp', _, _, q2⟩ := (hP.below r3) _ _ f2
      cases hp'
      obtain ⟨k2, hk2⟩ : ∃ k2, 2 * i = k2 := ⟨_, rfl⟩
      rw [hk2] at q1 q2
      have n0 := (r2.get 0 _ rfl).1
      have hnl := r2.lt
      obtain ⟨c1, z1⟩ := r1.get i (.int .i64 (cv : Int)) (by simp only [vals, List.getElem?_map, tokL_get hcv]; rfl)
      have hk2I : (2 : Int) * (i : Int) = (k2 : Int) := by omega
      have hk2l : (k2 : Int) < (pn : Int) := by omega
      have hk3l : (k2 : Int) + 1 < (pn : Int) := by omega
      have hk2b : k2 ≤ 200 := by omega
      by_cases hh : a = u ∨ a' = u
      · have hth := tok_hit (v := v0) (hgl.trans hcl.symm) hg hcv (by rw [hV.out]; exact hh)
        obtain ⟨nv, hnv⟩ : ∃ nv, (if cv % 2 = 0 then a else a') = nv := ⟨_, rfl⟩
        have hth2 : tokV G C v0 (i + 1) = nv := by rw [hth.2]; exact hnv
        have HNV := hidq hth2
        have HN := hidq (fun q => (show TokR w (tokL G C v0 (i + 1)) b nb [.slice (some ⟨pb, po, none⟩) pn pc, .slice wa wn wc] ((wr.drewN q).setCell ⟨b, i, none⟩ (.int .i64 ((cv : Int) + 1))) from by
          have := (hR.out.drewN q).hit hbl.1 hbl.2 i (cv + 1)
          rw [hth.1] at this
          exact this))
        by_cases hev : cv % 2 = 0
        · have hnva : a = nv := by rw [← hnv, if_pos hev]
          subst hnva
          have hevI : (cv : Int) % 2 = 0 := by omega
          by_cases hau : a = u
          · subst hau
            clear hP hW hcl hgl hCb hat hnd hwn hg hcv f1 f2 r1 r2 r3 hR hV hth hth2 hnv hh hk2
            go_wp2_with fail
            go_quiet (fail)
            go_wp2_with fail
            go_roundw
            case rel => exact ⟨i + 1, a, by go_num, by go_num, by omega, HNV, hidq (HN.out _)⟩
            case measure => simp [intOf]; omega
          · have hau2 : a' = u := hh.elim (fun e => absurd e hau) id
            subst hau2
            have t1 : ((a : Int) == (a' : Int)) = false := by simp; omega
            have t2 : (a == a') = false := by simpa using hau
            have t5 : ((a : Int) != (a' : Int)) = true := by simp; omega
            have t6 : ¬ ((a : Int) = (a' : Int)) := by omega
            clear hP hW hcl hgl hCb hat hnd hwn hg hcv f1 f2 r1 r2 r3 hR hV hth hth2 hnv hh hk2 hau
            go_wp2_with fail
            go_quiet (fail)
            go_wp2_with fail
            go_roundw
            case rel => exact ⟨i + 1, a, by go_num, by go_num, by omega, HNV, hidq (HN.out _)⟩
            case measure => simp [intOf]; omega
        · have hnva : a' = nv := by rw [← hnv, if_neg hev]
          subst hnva
          have hevI : (cv : Int) % 2 = 1 := by omega
          by_cases hau : a = u
          · subst hau
            clear hP hW hcl hgl hCb hat hnd hwn hg hcv f1 f2 r1 r2 r3 hR hV hth hth2 hnv hh hk2 hev
            go_wp2_with fail
            go_quiet (fail)
            go_wp2_with fail
            go_roundw
            case rel => exact ⟨i + 1, a', by go_num, by go_num, by omega, HNV, hidq (HN.out _)⟩
            case measure => simp [intOf]; omega
          · have hau2 : a' = u := hh.elim (fun e => absurd e hau) id
            subst hau2
            have t1 : ((a : Int) == (a' : Int)) = false := by simp; omega
            have t2 : (a == a') = false := by simpa using hau
            have t5 : ((a : Int) != (a' : Int)) = true := by simp; omega
            have t6 : ¬ ((a : Int) = (a' : Int)) := by omega
            clear hP hW hcl hgl hCb hat hnd hwn hg hcv f1 f2 r1 r2 r3 hR hV hth hth2 hnv hh hk2 hau hev
            go_wp2_with fail
            go_quiet (fail)
            go_wp2_with fail
            go_roundw
            case rel => exact ⟨i + 1, a', by go_num, by go_num, by omega, HNV, hidq (HN.out _)⟩
            case measure => simp [intOf]; omega
      · obtain ⟨hm1, hm2⟩ := tok_miss (v := v0) (hgl.trans hcl.symm) hg hcv (by rw [hV.out]; exact hh)
        have HNV := hidq (hm2.trans hV.out)
        have HN := hidq (show TokR w (tokL G C v0 (i + 1)) b nb [.slice (some ⟨pb, po, none⟩) pn pc, .slice wa wn wc] wr from by rw [← hm1]; exact hR.out)
        have hau : a ≠ u := fun e => hh (.inl e)
        have hau' : a' ≠ u := fun e => hh (.inr e)
        have t1 : ((a : Int) == (u : Int)) = false := by simp; omega
        have t2 : (a == u) = false := by simpa using hau
        have t3 : ((a' : Int) == (u : Int)) = false := by simp; omega
        have t4 : (a' == u) = false := by simpa using hau'
        have t5 : ((a : Int) != (u : Int)) = true := by simp; omega
        have t6 : ¬ ((a : Int) = (u : Int)) := by omega
        have t7 : ((a' : Int) != (u : Int)) = true := by simp; omega
        have t8 : ¬ ((a' : Int) = (u : Int)) := by omega
        clear hP hW hcl hgl hCb hat hnd hwn hg hcv f1 f2 r1 r2 r3 hR hV hm1 hm2 hh hk2 hau hau'
        go_wp2_with fail
        go_roundw
        case rel => exact ⟨i + 1, u, by go_num, rfl, by omega, HNV, HN⟩
        case measure => simp [intOf]; omega
    · have hd1 : decide ((i : Int) < (c : Int)) = false := decide_eq_false (by omega)
      have hd2 : decide (i < c) = false := decide_eq_false (by omega)
      have hic : i = c := by omega
      subst hic
      obtain ⟨hP, hW, hcl, hgl, hCb, hat, hnd, hwn⟩ := HX.out
      obtain ⟨r1, r2, r3⟩ := hR.out
      rw [HE.out.2.2.1] at r1
      have huv : (Wr.tok G C v0).2 = u := by rw [← HE.out.2.2.2]; exact hV.out
      rw [huv] at hat
      have n1 := (r2.get 1 _ rfl).1
      have hnl := r2.lt
      obtain ⟨Y, hY⟩ : ∃ Y, Y = wr := ⟨_, rfl⟩
      subst hY
      have HZ := hidq (And.intro r1 (And.intro r3 (And.intro (hW.below r3) (And.intro hat (And.intro hnd hwn)))))
      have HEnd := hidq (show TokEnd i (Wr.tok G C v0).1 j w (.returned (.tuple #[.slice (some ⟨b, 0, none⟩) i c2, .int .i64 (j : Int)])) Y from ⟨b, c2, rfl, r1, hbl.1, r3⟩)
      clear hP hW hcl hgl hCb hat hnd hwn r1 r2 r3 hR hV huv HX HE
      go_wp2_with fail
      go_loopw [59] (fun s59 wq => ∃ k : Nat, s59 = .int .i64 (k : Int) ∧ k ≤ j ∧ wq = Y) (fun s59 _ => wn - (intOf s59).toNat)
      case atStart => exact ⟨0, rfl, Nat.zero_le _, rfl⟩
      case round =>
        obtain ⟨k, rfl, hk, hwq⟩ := hrel
        subst hwq
        obtain ⟨r1, r3, hW, hat, hnd, hwn⟩ := HZ.out
        have hkl : k < wn := by omega
        have hklI : (k : Int) < (wn : Int) := by omega
        obtain ⟨x, hx⟩ : ∃ x, O[k]? = some x := ⟨_, List.getElem?_eq_getElem (by omega)⟩
        obtain ⟨ob, oo, rfl, hol, _, q1⟩ := hW k x hx
        by_cases hkj : k = j
        · subst hkj
          have hxu : x = u := by rw [hat] at hx; exact (Option.some.inj hx).symm
          subst hxu
          clear r1 r3 hW hat hnd hwn hx
          go_wp2_with fail
          go_ret2
          exact HEnd.out
        · have hxu : x ≠ u := fun e => by
            subst e
            exact hkj ((List.getElem?_inj (List.getElem?_eq_some_iff.1 hx).1 hnd).1 (hx.trans hat.symm))
          have t1 : ((x : Int) == (u : Int)) = false := by simp; omega
          have t2 : (x == u) = false := by simpa using hxu
          have t6 : ¬ ((x : Int) = (u : Int)) := by omega
          clear r1 r3 hW hat hnd hwn hx hxu
          go_wp2_with fail
          go_roundw
          case rel => exact ⟨k + 1, by go_num, by omega, trivial⟩
          case measure => simp [intOf]; omega
end Go.Proofs.Ytgkcbihpojkfaaa

namespace Go.Proofs.Ytgkcbihpojkfaaa
open Go.RowKit Go.Sort

theorem inc_getD {L : List Nat} {v : Nat} (hv : v < L.length) : Wr.inc (fun x => L.getD x 0) v = fun x => (L.set v (L.getD v 0 + 1)).getD x 0 := by
  funext x
  unfold Wr.inc
  simp only [List.getD_eq_getElem?_getD, List.getElem?_set]
  by_cases e : x = v
  · subst e; rw [if_pos rfl, if_pos rfl, if_pos hv]; rfl
  · rw [if_neg e, if_neg (Ne.symm e)]
theorem sum_inc (s : Nat → Nat) (v : Nat) : ∀ (l : List Nat), l.Nodup → Wr.sum (Wr.inc s v) l = Wr.sum s l + (if v ∈ l then 1 else 0)
  | [], _ => rfl
  | a :: l, h => by
    have ih := sum_inc s v l (List.nodup_cons.1 h).2
    have hn := (List.nodup_cons.1 h).1
    show Wr.inc s v a + Wr.sum (Wr.inc s v) l = s a + Wr.sum s l + _
    rw [ih]
    by_cases e : a = v
    · subst e
      rw [Wr.inc_at, if_neg hn, if_pos List.mem_cons_self]; omega
    · rw [Wr.inc_o s v a e]
      by_cases hm : v ∈ l
      · rw [if_pos hm, if_pos (List.mem_cons_of_mem _ hm)]; omega
      · rw [if_neg hm, if_neg (fun h => by rcases List.mem_cons.1 h with h | h; exact e h.symm; exact hm h)]; omega
theorem cnts_le : ∀ (gs : List (Nat × Nat)) (s : Nat → Nat) (M : Nat), (∀ v, s v ≤ M) → ∀ x ∈ Wr.cnts gs s, x ≤ 2 * M
  | [], _, _, _, x, hx => by cases hx
  | g :: gs, s, M, h, x, hx => by
    rcases List.mem_cons.1 hx with e | e
    · rw [e]; have := h g.1; have := h g.2; omega
    · exact cnts_le gs (Wr.upd s g) M (Wr.run_le [g] s M h) x e
/-- One token more. -/
theorem tok_place {G : List (Nat × Nat)} {O : List Nat} {n i v : Nat} {s : Nat → Nat} (hev : ∀ s, Wr.Ev (Wr.run G s) n O (Wr.sum s (List.range n))) (hne : ∀ g ∈ G, g.1 ≠ g.2) (hs : Wr.sum s (List.range n) = i) (hv : v < n) :
    O[i % n]? = some (Wr.tok G (Wr.cnts G s) v).2 ∧ (Wr.tok G (Wr.cnts G s) v).1 = Wr.cnts G (Wr.inc s v) ∧ Wr.sum (Wr.inc s v) (List.range n) = i + 1 := by
  obtain ⟨h1, h2⟩ := Wr.tok_run G s v hne
  have h3 : Wr.sum (Wr.inc s v) (List.range n) = i + 1 := by rw [sum_inc s v _ List.nodup_range, if_pos (List.mem_range.2 hv), hs]
  have hp : i % n < n := Nat.mod_lt _ (by omega)
  have e1 := hev s
  have e2 := hev (Wr.inc s v)
  rw [hs] at e1
  rw [h3] at e2
  obtain ⟨a, ha⟩ : ∃ a, O[i % n]? = some a := ⟨_, List.getElem?_eq_getElem (by rw [e1.1]; exact hp)⟩
  have q1 := e1.2 _ _ ha
  have q2 := e2.2 _ _ ha
  rw [Wr.E_next n i _ hp, if_pos rfl, h2] at q2
  refine ⟨?_, h1, h3⟩
  rw [ha]
  congr 1
  by_cases e : a = (Wr.tok G (Wr.cnts G s) v).2
  · exact e
  · rw [Wr.inc_o _ _ _ e] at q2; omega
theorem evens_next {n i : Nat} (hn : 0 < n) : (evens n i).set (i % n) (Wr.E n i (i % n) + 1) = evens n (i + 1) := by
  have hp : i % n < n := Nat.mod_lt _ hn
  apply List.ext_getElem?
  intro j
  rw [List.getElem?_set]
  by_cases hj : j < n
  · rw [evens_get hj, evens_get hj, Wr.E_next n i j hj]
    by_cases e : i % n = j
    · subst e; rw [if_pos rfl, if_pos (by rw [evens_len]; exact hp), if_pos rfl]
    · rw [if_neg e, if_neg (Ne.symm e)]
  · rw [if_neg (by omega), List.getElem?_eq_none (by rw [evens_len]; omega), List.getElem?_eq_none (by rw [evens_len]; omega)]
theorem E_le (n i j : Nat) (hn : 0 < n) : Wr.E n i j ≤ i + 1 := by
  unfold Wr.E
  apply Nat.div_le_of_le_mul
  have h1 : n * (i + 1) = n * i + n := Nat.mul_succ n i
  have h2 : i ≤ n * i := Nat.le_mul_of_pos_left i hn
  omega
theorem evens_zero (n : Nat) : evens n 0 = List.replicate n 0 := by
  apply List.ext_getElem?
  intro j
  by_cases hj : j < n
  · rw [evens_get hj, List.getElem?_replicate, if_pos hj]
    unfold Wr.E
    rw [Nat.div_eq_of_lt (by omega)]
  · rw [List.getElem?_eq_none (by rw [evens_len]; omega), List.getElem?_replicate, if_neg hj]
theorem cnts_zero : ∀ (gs : List (Nat × Nat)) (s : Nat → Nat), (∀ v, s v = 0) → Wr.cnts gs s = List.replicate gs.length 0
  | [], _, _ => rfl
  | g :: gs, s, h => by
    have hu : ∀ v, Wr.upd s g v = 0 := fun v => by have := Wr.run_le [g] s 0 (fun v => by rw [h v]; exact Nat.le_refl _) v; exact Nat.le_zero.1 this
    show (s g.1 + s g.2) :: Wr.cnts gs (Wr.upd s g) = _
    rw [h, h, cnts_zero gs _ hu]; rfl
theorem getD_zeros (n v : Nat) : (List.replicate n 0).getD v 0 = 0 := by
  rw [List.getD_eq_getElem?_getD, List.getElem?_replicate]
  split <;> rfl
theorem sum_zeros (n : Nat) : ∀ l : List Nat, Wr.sum (fun v => (List.replicate n 0).getD v 0) l = 0
  | [] => rfl
  | a :: l => by show (List.replicate n 0).getD a 0 + _ = 0; rw [getD_zeros, sum_zeros n l]
namespace Reg
/-- What each step leaves, where boxes are made: each one's block, by the number of its operation. -/
def DPres (x : Nat → Option Nat) (w : World) (x' : Nat → Option Nat) (w' : World) : Prop :=
  Below w.heap.size w w' ∧ (∀ k b, x k = some b → x' k = some b) ∧ (∀ k b, x' k = some b → x k = some b ∨ w.heap.size ≤ b)
theorem DPres.refl (x : Nat → Option Nat) (w : World) : DPres x w x w := ⟨Below.refl _ _, fun _ _ e => e, fun _ _ e => .inl e⟩
def DInv (W0 : World) (x : Nat → Option Nat) (L : Array Bool) (w : World) : Prop :=
  Below W0.heap.size W0 w ∧ (∀ k b, x k = some b → b < w.heap.size) ∧ (∀ k, L.getD k false = false → x k = none)
theorem getD_set_false {L : Array Bool} {i k : Nat} (h : (L.setIfInBounds i true).getD k false = false) : L.getD k false = false := by
  by_cases e : i = k
  · subst e
    rcases Nat.lt_or_ge i L.size with h' | h'
    · rw [Array.getD_eq_getD_getElem?, Array.getElem?_setIfInBounds_self_of_lt h'] at h; cases h
    · rw [Array.getD_eq_getD_getElem?, Array.getElem?_eq_none h']; rfl
  · rw [getD_setb e] at h; exact h
theorem DInv.light {W0 : World} {x : Nat → Option Nat} {L : Array Bool} {w : World} (h : DInv W0 x L w) (i : Nat) : DInv W0 x (L.setIfInBounds i true) w :=
  ⟨h.1, h.2.1, fun k e => h.2.2 k (getD_set_false e)⟩
theorem DInv.start {w : World} (n : Nat) : DInv w (fun _ => none) (Array.replicate n false) w.drew :=
  ⟨below_drewN (Below.refl _ _) 1, (fun _ _ e => by cases e), fun _ _ => rfl⟩
/-- One box more. -/
def dset (x : Nat → Option Nat) (i b : Nat) : Nat → Option Nat := fun k => if k = i then some b else x k
theorem DPres.new {x : Nat → Option Nat} {w w' : World} {W0 : World} {L : Array Bool} {i : Nat} (hI : DInv W0 x L w) (hk : L.getD i true = false) (hb : Below w.heap.size w w') : DPres x w (dset x i w.heap.size) w' := by
  refine ⟨hb, fun k b e => ?_, fun k b e => ?_⟩
  · unfold dset
    by_cases h : k = i
    · subst h; rw [hI.2.2 k (getD_true hk)] at e; cases e
    · rw [if_neg h]; exact e
  · unfold dset at e
    by_cases h : k = i
    · rw [if_pos h] at e; cases e; exact .inr (Nat.le_refl _)
    · rw [if_neg h] at e; exact .inl e
theorem DInv.new {x : Nat → Option Nat} {w w' : World} {W0 : World} {L : Array Bool} {i : Nat} (hI : DInv W0 x L w) (hk : L.getD i true = false) (hb : Below w.heap.size w w') (hs : w.heap.size < w'.heap.size) : DInv W0 (dset x i w.heap.size) (L.setIfInBounds i true) w' := by
  refine ⟨hI.1.trans (hb.mono hI.1.size), fun k b e => ?_, fun k e => ?_⟩
  · unfold dset at e
    by_cases h : k = i
    · rw [if_pos h] at e; cases e; exact hs
    · rw [if_neg h] at e; exact Nat.lt_trans (hI.2.1 k b e) hs
  · unfold dset
    by_cases h : k = i
    · subst h; rw [getD_sets hk] at e; cases e
    · rw [if_neg h]; exact hI.2.2 k (getD_set_false e)
end Reg
/-- A slice of zeros that one operation of a region made. -/
def Made (k n lo : Nat) (v : Value) (x : Nat → Option Nat) (w : World) : Prop :=
  ∃ b, v = .slice (some ⟨b, 0, none⟩) n n ∧ x k = some b ∧ lo ≤ b ∧ BoxAt w b (vals (List.replicate n 0)) ∧ ∀ j b', j ≠ k → x j = some b' → b' ≠ b
theorem Made.kept {k n lo : Nat} {v : Value} {x x' : Nat → Option Nat} {w w' : World} (hp : Reg.DPres x w x' w') (h : Made k n lo v x w) : Made k n lo v x' w' := by
  obtain ⟨b, h1, h2, h3, h4, h5⟩ := h
  exact ⟨b, h1, hp.2.1 _ _ h2, h3, h4.below hp.1, fun j b' hj e => (hp.2.2 j b' e).elim (h5 j b' hj) (fun h => by have := h4.lt; omega)⟩
theorem Made.new {k n lo : Nat} {x : Nat → Option Nat} {w W0 : World} {L : Array Bool} {t : TypeId} (hI : Reg.DInv W0 x L w) (hlo : lo ≤ w.heap.size) : Made k n lo (.slice (some ⟨w.heap.size, 0, none⟩) n n) (Reg.dset x k w.heap.size) (w.alloc (.cells (Array.replicate n (Value.int .i64 0)) t)) := by
  refine ⟨w.heap.size, rfl, if_pos rfl, hlo, ?_, fun j b' hj e => ?_⟩
  · have := BoxAt.new w (List.replicate n (Value.int .i64 0)) t
    rw [List.toArray_replicate, ← vals_zero] at this
    exact this
  · unfold Reg.dset at e
    rw [if_neg hj] at e
    have := hI.2.1 j b' e
    omega
/-- What is held against each other. -/
def QR (w : World) (gb cb qb ob : Nat) (A B C : List Nat) (wr : World) : Prop :=
  BoxAt wr gb (vals A) ∧ BoxAt wr cb (vals A) ∧ BoxAt wr qb (vals B) ∧ BoxAt wr ob (vals C) ∧ Below w.heap.size w wr
theorem QR.drewN {w : World} {gb cb qb ob : Nat} {A B C : List Nat} {wr : World} (h : QR w gb cb qb ob A B C wr) (q : Nat) : QR w gb cb qb ob A B C (wr.drewN q) :=
  ⟨h.1.drewN q, h.2.1.drewN q, h.2.2.1.drewN q, h.2.2.2.1.drewN q, below_drewN h.2.2.2.2 q⟩
/-- What holds between two tokens. -/
def PsR (V : World) (n : Nat) (G : List (Nat × Nat)) (ib ob i cb : Nat) (wr : World) : Prop :=
  ∃ L : List Nat, L.length = n ∧ BoxAt wr ib (vals L) ∧ BoxAt wr ob (vals (evens n i)) ∧ BoxAt wr cb (vals (Wr.cnts G (fun v => L.getD v 0))) ∧ Wr.sum (fun v => L.getD v 0) (List.range n) = i ∧ (∀ v, L.getD v 0 ≤ i) ∧ cb ≠ ib ∧ cb ≠ ob ∧ Below V.heap.size V wr
end Go.Proofs.Ytgkcbihpojkfaaa

namespace Go.Proofs.Ytgkcbihpojkfaaa
open Go.RowKit Go.Sort

def passes8R (nb n pn pc c lo : Nat) (pa : Option Addr) : List (Value → (Nat → Option Nat) → World → Prop) :=
  [fun v _ _ => v = .pointer (some ⟨nb, 0, none⟩),
   fun v _ _ => v = .slice pa pn pc,
   fun v _ _ => v = .int .i64 (pn : Int),
   fun v _ _ => v = .int .i64 (c : Int),
   Made 4 c lo,
   fun v _ _ => v = .int .i64 (n : Int),
   Made 6 n lo,
   fun v _ _ => v = .int .i64 (n : Int),
   Made 8 n lo,
   Made 4 c lo,
   Made 6 n lo,
   Made 8 n lo]
theorem passes8R_kept (nb n pn pc c lo : Nat) (pa : Option Addr) : Reg.GAllKept (Reg.DPres) (passes8R nb n pn pc c lo pa) :=
  ⟨(fun _ _ _ _ _ _ h => h), (fun _ _ _ _ _ _ h => h), (fun _ _ _ _ _ _ h => h), (fun _ _ _ _ _ _ h => h), (fun _ _ _ _ _ hp h => h.kept hp), (fun _ _ _ _ _ _ h => h), (fun _ _ _ _ _ hp h => h.kept hp), (fun _ _ _ _ _ _ h => h), (fun _ _ _ _ _ hp h => h.kept hp), (fun _ _ _ _ _ hp h => h.kept hp), (fun _ _ _ _ _ hp h => h.kept hp), (fun _ _ _ _ _ hp h => h.kept hp), trivial⟩

set_option maxRecDepth 20000 in
set_option maxHeartbeats 16000000 in
theorem wirePasses_any (a0 : Int) (a1 : Option Addr) (n1 c1 : Nat) (Z1 : Nat → Int) (w : World) (h1 : IntsIn w a1 n1 Z1) (_hl1 : n1 ≤ 9223372036854775807) :
    Calls Try.prog 5 #[.int .i64 a0, .slice a1 n1 c1] w fun e w' => e = .returned (.bool true) ∧ Below w.heap.size w w' := by
  have hA := awake10_any w
  have hWd := fun W => width_any a0 W
  obtain ⟨d, hd⟩ : ∃ d, dOf a0 = d := ⟨_, rfl⟩
  have hd4 : d ≤ 4 := by rw [← hd]; exact dOf_le a0
  rw [hd] at hWd
  obtain ⟨n, hn⟩ : ∃ n, 2 ^ d = n := ⟨_, rfl⟩
  rw [hn] at hWd
  obtain ⟨hleg, hn1, hn16⟩ := legal_pow hd4 hn.symm
  have hMk := fun W => make_ok d n hd4 hn.symm W
  have hCt := fun W => rcount_any d W 0 n hn.symm hn16 (by omega)
  obtain ⟨pf1, pf2, pf3, pf4⟩ := plan_facts d hd4
  have hcgl := count_gates d (List.range (2 ^ d)) (by simp)
  have houl := Wr.count_length d (List.range (2 ^ d)) (by simp)
  have hcg := cg_le hd4
  have hev := fun s => Wr.count_even d (List.range (2 ^ d)) s List.nodup_range (by simp)
  rw [hn] at pf1 pf2 pf3 pf4 hcgl houl hev
  rw [← List.range_eq_range'] at hCt
  obtain ⟨P, hP⟩ : ∃ P, Wr.count d (List.range n) = P := ⟨_, rfl⟩
  rw [hP] at pf1 pf2 pf3 hcgl houl hev hCt
  obtain ⟨c, hc⟩ : ∃ c, cg d = c := ⟨_, rfl⟩
  rw [hc] at hcgl hcg
  have hpl2 : (flatP P.1).length = 2 * c := by rw [flatP_length, hcgl]
  have HMk := hidq hMk
  have HCt := hidq hCt
  have HPc := hidq (And.intro hP hc)
  have HL := hidq (And.intro hcgl (And.intro houl (And.intro hpl2 (And.intro hev (And.intro pf1 (And.intro pf2 pf3))))))
  have HZ := hidq h1
  clear hMk hCt hcgl houl hleg hn hd hd4 hP hc hpl2 hev pf1 pf2 pf3 pf4 h1
  go_enter Try.func5, Try.ntmps5
  go_wp2_with fail
  refine hA.mono ?_
  rintro e w1 ⟨rfl, hb1⟩
  clear hA
  go_wp2_with fail
  refine (hWd _).mono ?_
  rintro e w2 ⟨rfl, hw2⟩
  subst w2
  clear hWd
  go_wp2_with fail
  refine (HMk.out _).mono ?_
  rintro e w3 ⟨ga, gc, oa, oc, rfl, hS, hN, hb3⟩
  rw [HPc.out.1] at hS hN
  rw [HPc.out.2] at hS ⊢
  obtain ⟨pb, hpb⟩ : ∃ pb, w3.heap.size = pb := ⟨_, rfl⟩
  obtain ⟨W, hW⟩ : ∃ W, w3.alloc (.cells #[.int .i64 (n : Int), .slice ga c gc, .slice oa n oc] 26) = W := ⟨_, rfl⟩
  have hb4 : Below w3.heap.size w3 W := by rw [← hW]; exact (Below.refl _ _).alloc (Nat.le_refl _) _
  have hB := BoxAt.new w3 [.int .i64 (n : Int), .slice ga c gc, .slice oa n oc] 26
  rw [show w3.alloc (.cells [.int .i64 (n : Int), .slice ga c gc, .slice oa n oc].toArray 26) = W from hW, hpb] at hB
  have hF : Below w.heap.size w W := (hb1.trans (hb3.mono hb1.size)).trans (hb4.mono (by have := hb1.size; have := hb3.size; omega))
  have HW := hidq hW
  have H1 := hidq (And.intro hF (And.intro hB (And.intro (hS.below hb4) ((hN.mono (T := fun _ => False) (fun _ _ e => e.elim)).below hb4))))
  clear hb1 hb3 hb4 hB hF hS hN hW HMk
  go_wp2_with fail
  rw [HW.out]
  clear HW
  refine (HCt.out W).mono ?_
  rintro e w7 ⟨pa, pn, pc, wa, wn, wc, rfl, hpn, hwn, hS7, hT7, _, _, hb7⟩
  obtain rfl : n = wn := by rw [← hwn, HL.out.2.1]
  have hpn2 : 2 * c = pn := by rw [← hpn, HL.out.2.2.1]
  obtain ⟨nb, hnb⟩ : ∃ nb, w7.heap.size = nb := ⟨_, rfl⟩
  obtain ⟨W0, hW0⟩ : ∃ W0, w7.alloc (.cells #[.slice pa pn pc, .slice wa n wc] 32) = W0 := ⟨_, rfl⟩
  have hbV : Below w7.heap.size w7 W0 := by rw [← hW0]; exact (Below.refl _ _).alloc (Nat.le_refl _) _
  have hB7 := BoxAt.new w7 [.slice pa pn pc, .slice wa n wc] 32
  rw [show w7.alloc (.cells [.slice pa pn pc, .slice wa n wc].toArray 32) = W0 from hW0, hnb] at hB7
  obtain ⟨v1, v2, v3, v4⟩ := H1.out
  have hbWV := hb7.trans (hbV.mono hb7.size)
  have H2 := hidq (And.intro (v1.trans (hbWV.mono v1.size)) (And.intro (v2.below hbWV) (And.intro (v3.below hbWV) (And.intro (v4.below hbWV) (And.intro hB7 (And.intro (nsAt_of (S := fun _ => False) (hS7.below hbV) (fun _ _ => id)) (And.intro (nsAt_of (S := fun _ => False) (hT7.below hbV) (fun _ _ => id)) hpn)))))))
  have FX := hidq (fun W (hW : Below W0.heap.size W0 W) => (show W.cell? ⟨nb, 0, none⟩ = some (.slice pa pn pc) from ((hB7.below hW).get 0 _ rfl).1))
  have hpb2 : pn ≤ 200 := by omega
  have HW0 := hidq hW0
  obtain ⟨lo, hlo⟩ : ∃ lo, W0.heap.size = lo := ⟨_, rfl⟩
  have hn2 : n ≤ 1000 := by omega
  clear v1 v2 v3 v4 hbWV hB7 hbV hb7 hS7 hT7 hpn hwn H1 HCt hW0
  go_wp2_with fail
  rw [HW0.out]
  clear HW0
  refine Reg.wp_region_ghost (Reg.gofList (passes8R nb n pn pc c lo pa)) (Reg.DPres) (Reg.DInv W0) (fun _ => none) (by kernel_rfl) (by kernel_rfl) (Reg.GAllKept.at _ (passes8R_kept nb n pn pc c lo pa)) (Reg.DInv.start 12) ⟨?_, ?_, ?_, ?_, ?_, ?_, ?_, ?_, ?_, ?_, ?_, ?_, trivial⟩ ?_
  · refine Reg.GStepAt.plain (i := 0) rfl ?_
    intro x L ev w hI hk hp hA
    have e8 : ev (.tmp 8) = .pointer (some ⟨nb, 0, none⟩) := hA.oldNone 8 (by kernel_rfl)
    have hcc := hA.const
    clear hA hp
    refine Reg.out_value (v := .pointer (some ⟨nb, 0, none⟩)) ?_ ⟨x, rfl, Reg.DPres.refl _ _, Reg.DInv.light hI 0⟩
    go_simp
  · refine Reg.GStepAt.plain (i := 1) rfl ?_
    intro x L ev w hI hk hp hA
    have e32 : ev (.tmp 32) = .pointer (some ⟨nb, 0, none⟩) := hA.val 0 _ 32 rfl (hp ⟨0, .data⟩ (by simp) rfl) rfl
    have hcc := hA.const
    clear hA hp
    have f1 := FX.out w hI.1
    refine Reg.out_value (v := .slice pa pn pc) ?_ ⟨x, rfl, Reg.DPres.refl _ _, Reg.DInv.light hI 1⟩
    go_simp
  · refine Reg.GStepAt.plain (i := 2) rfl ?_
    intro x L ev w hI hk hp hA
    have e33 : ev (.tmp 33) = .slice pa pn pc := hA.val 1 _ 33 rfl (hp ⟨1, .data⟩ (by simp) rfl) rfl
    have hcc := hA.const
    clear hA hp
    refine Reg.out_value (v := .int .i64 (pn : Int)) ?_ ⟨x, rfl, Reg.DPres.refl _ _, Reg.DInv.light hI 2⟩
    go_simp
  · refine Reg.GStepAt.plain (i := 3) rfl ?_
    intro x L ev w hI hk hp hA
    have e34 : ev (.tmp 34) = .int .i64 (pn : Int) := hA.val 2 _ 34 rfl (hp ⟨2, .data⟩ (by simp) rfl) rfl
    have hcc := hA.const
    clear hA hp
    refine Reg.out_value (v := .int .i64 (c : Int)) ?_ ⟨x, rfl, Reg.DPres.refl _ _, Reg.DInv.light hI 3⟩
    (go_simp <;> (rw [IntKind.wrap_i64]; omega))
  · refine Reg.GStepAt.plain (i := 4) rfl ?_
    intro x L ev w hI hk hp hA
    have e35 : ev (.tmp 35) = .int .i64 (c : Int) := hA.val 3 _ 35 rfl (hp ⟨3, .data⟩ (by simp) rfl) rfl
    have hcc := hA.const
    clear hA hp
    have hmk := zerosI c (by omega) w
    rw [List.toArray_replicate] at hmk
    have hSz := hI.1.size
    have hbl : Below w.heap.size w (w.alloc (.cells (Array.replicate c (Value.int .i64 0)) 3)) := (Below.refl _ _).alloc (Nat.le_refl _) _
    refine Reg.out_new (v := .slice (some ⟨w.heap.size, 0, none⟩) c c) (w' := w.alloc (.cells (Array.replicate c (Value.int .i64 0)) 3)) ?_ ⟨Reg.dset x 4 w.heap.size, Made.new hI (by omega), Reg.DPres.new hI hk hbl, Reg.DInv.new hI hk hbl (by simp)⟩
    clear hI hk hbl
    go_simp
  · refine Reg.GStepAt.plain (i := 5) rfl ?_
    intro x L ev w hI hk hp hA
    have e5 : ev (.tmp 5) = .int .i64 (n : Int) := hA.oldNone 5 (by kernel_rfl)
    have hcc := hA.const
    clear hA hp
    refine Reg.out_value (v := .int .i64 (n : Int)) ?_ ⟨x, rfl, Reg.DPres.refl _ _, Reg.DInv.light hI 5⟩
    go_simp
  · refine Reg.GStepAt.plain (i := 6) rfl ?_
    intro x L ev w hI hk hp hA
    have e37 : ev (.tmp 37) = .int .i64 (n : Int) := hA.val 5 _ 37 rfl (hp ⟨5, .data⟩ (by simp) rfl) rfl
    have hcc := hA.const
    clear hA hp
    have hmk := zerosL n (by omega) w
    rw [List.toArray_replicate] at hmk
    have hSz := hI.1.size
    have hbl : Below w.heap.size w (w.alloc (.cells (Array.replicate n (Value.int .i64 0)) 2)) := (Below.refl _ _).alloc (Nat.le_refl _) _
    refine Reg.out_new (v := .slice (some ⟨w.heap.size, 0, none⟩) n n) (w' := w.alloc (.cells (Array.replicate n (Value.int .i64 0)) 2)) ?_ ⟨Reg.dset x 6 w.heap.size, Made.new hI (by omega), Reg.DPres.new hI hk hbl, Reg.DInv.new hI hk hbl (by simp)⟩
    clear hI hk hbl
    go_simp
  · refine Reg.GStepAt.plain (i := 7) rfl ?_
    intro x L ev w hI hk hp hA
    have e5 : ev (.tmp 5) = .int .i64 (n : Int) := hA.oldNone 5 (by kernel_rfl)
    have hcc := hA.const
    clear hA hp
    refine Reg.out_value (v := .int .i64 (n : Int)) ?_ ⟨x, rfl, Reg.DPres.refl _ _, Reg.DInv.light hI 7⟩
    go_simp
  · refine Reg.GStepAt.plain (i := 8) rfl ?_
    intro x L ev w hI hk hp hA
    have e39 : ev (.tmp 39) = .int .i64 (n : Int) := hA.val 7 _ 39 rfl (hp ⟨7, .data⟩ (by simp) rfl) rfl
    have hcc := hA.const
    clear hA hp
    have hmk := zerosL n (by omega) w
    rw [List.toArray_replicate] at hmk
    have hSz := hI.1.size
    have hbl : Below w.heap.size w (w.alloc (.cells (Array.replicate n (Value.int .i64 0)) 2)) := (Below.refl _ _).alloc (Nat.le_refl _) _
    refine Reg.out_new (v := .slice (some ⟨w.heap.size, 0, none⟩) n n) (w' := w.alloc (.cells (Array.replicate n (Value.int .i64 0)) 2)) ?_ ⟨Reg.dset x 8 w.heap.size, Made.new hI (by omega), Reg.DPres.new hI hk hbl, Reg.DInv.new hI hk hbl (by simp)⟩
    clear hI hk hbl
    go_simp
  · refine Reg.GStepAt.plain (i := 9) rfl ?_
    intro x L ev w hI hk hp hA
    have e36 : (Made 4 c lo) (ev (.tmp 36)) x w := hA.val 4 _ 36 rfl (hp ⟨4, .data⟩ (by simp) rfl) rfl
    have hcc := hA.const
    clear hA hp
    exact Reg.out_value rfl ⟨x, e36, Reg.DPres.refl _ _, Reg.DInv.light hI 9⟩
  · refine Reg.GStepAt.plain (i := 10) rfl ?_
    intro x L ev w hI hk hp hA
    have e38 : (Made 6 n lo) (ev (.tmp 38)) x w := hA.val 6 _ 38 rfl (hp ⟨6, .data⟩ (by simp) rfl) rfl
    have hcc := hA.const
    clear hA hp
    exact Reg.out_value rfl ⟨x, e38, Reg.DPres.refl _ _, Reg.DInv.light hI 10⟩
  · refine Reg.GStepAt.plain (i := 11) rfl ?_
    intro x L ev w hI hk hp hA
    have e40 : (Made 8 n lo) (ev (.tmp 40)) x w := hA.val 8 _ 40 rfl (hp ⟨8, .data⟩ (by simp) rfl) rfl
    have hcc := hA.const
    clear hA hp
    exact Reg.out_value rfl ⟨x, e40, Reg.DPres.refl _ _, Reg.DInv.light hI 11⟩
  intro gx L act wz hall hI hF
  have g32 : act.eval (.tmp 32) = .pointer (some ⟨nb, 0, none⟩) := hF.val 0 _ 32 rfl (hall 0 (by simp)) rfl
  have g33 : act.eval (.tmp 33) = .slice pa pn pc := hF.val 1 _ 33 rfl (hall 1 (by simp)) rfl
  have g34 : act.eval (.tmp 34) = .int .i64 (pn : Int) := hF.val 2 _ 34 rfl (hall 2 (by simp)) rfl
  have g35 : act.eval (.tmp 35) = .int .i64 (c : Int) := hF.val 3 _ 35 rfl (hall 3 (by simp)) rfl
  have g36 : (Made 4 c lo) (act.eval (.tmp 36)) gx wz := hF.val 4 _ 36 rfl (hall 4 (by simp)) rfl
  have g37 : act.eval (.tmp 37) = .int .i64 (n : Int) := hF.val 5 _ 37 rfl (hall 5 (by simp)) rfl
  have g38 : (Made 6 n lo) (act.eval (.tmp 38)) gx wz := hF.val 6 _ 38 rfl (hall 6 (by simp)) rfl
  have g39 : act.eval (.tmp 39) = .int .i64 (n : Int) := hF.val 7 _ 39 rfl (hall 7 (by simp)) rfl
  have g40 : (Made 8 n lo) (act.eval (.tmp 40)) gx wz := hF.val 8 _ 40 rfl (hall 8 (by simp)) rfl
  have g9 : (Made 4 c lo) (act.eval (.tmp 9)) gx wz := hF.val 9 _ 9 rfl (hall 9 (by simp)) rfl
  have g10 : (Made 6 n lo) (act.eval (.tmp 10)) gx wz := hF.val 10 _ 10 rfl (hall 10 (by simp)) rfl
  have g11 : (Made 8 n lo) (act.eval (.tmp 11)) gx wz := hF.val 11 _ 11 rfl (hall 11 (by simp)) rfl
  have hact := hF.act [32, 33, 34, 35, 36, 37, 38, 39, 40, 9, 10, 11] (by kernel_rfl)
  have hBz := hI.1
  clear hF hall
  simp only [List.foldl_cons, List.foldl_nil] at hact
  rw [g32, g33, g34, g35, g37, g39] at hact
  clear g32 g33 g34 g35 g37 g39
  generalize act.eval (.tmp 36) = u36 at hact g36
  generalize act.eval (.tmp 38) = u38 at hact g38
  generalize act.eval (.tmp 40) = u40 at hact g40
  generalize act.eval (.tmp 9) = u9 at hact g9
  generalize act.eval (.tmp 10) = u10 at hact g10
  generalize act.eval (.tmp 11) = u11 at hact g11
  simp only [List.setIfInBounds_toArray, List.set_cons_succ, List.set_cons_zero] at hact
  subst hact
  obtain ⟨cb0, rfl, x4, m4, B4, N4⟩ := g9
  obtain ⟨ob, rfl, x6, m6, B6, N6⟩ := g10
  obtain ⟨ib, rfl, x8, m8, B8, N8⟩ := g11
  have hci : cb0 ≠ ib := fun e => N8 4 cb0 (by decide) x4 e
  have hco : cb0 ≠ ob := fun e => N6 4 cb0 (by decide) x4 e
  have hio : ib ≠ ob := fun e => N6 8 ib (by decide) x8 e
  have HR := hidq (show PsR W0 n P.1 ib ob 0 cb0 wz from
    ⟨List.replicate n 0, by simp, B8, by rw [evens_zero]; exact B6, by rw [cnts_zero _ _ (fun v => getD_zeros n v), HL.out.1]; exact B4, sum_zeros n _, fun v => by rw [getD_zeros]; exact Nat.le_refl _, hci, hco, hBz⟩)
  clear hI hBz g36 g38 g40 B4 B6 B8 N4 N6 N8 x4 x6 x8 FX hci hco
  go_wp2_with fail
  go_loopw [9, 12] (fun s9 s12 wr => ∃ i cb cc : Nat, s9 = .slice (some ⟨cb, 0, none⟩) c cc ∧ s12 = .int .i64 (i : Int) ∧ i ≤ n1 ∧ i ≤ 60 ∧ Hid (PsR W0 n P.1 ib ob i cb wr)) (fun _ s12 _ => 60 - (intOf s12).toNat)
  case atStart => exact ⟨0, cb0, c, rfl, rfl, Nat.zero_le _, Nat.zero_le _, HR⟩
  case round =>
    obtain ⟨i, cb, cc, rfl, rfl, hi1, hi60, hR⟩ := hrel
    clear HR
    by_cases hlt : i < n1 ∧ i < 60
    · obtain ⟨hlt1, hlt2⟩ := hlt
      have hltI1 : (i : Int) < (n1 : Int) := by omega
      have hltI2 : (i : Int) < 60 := by omega
      obtain ⟨L, r1, r2, r3, r4, r5, r6, r7, r8, r9⟩ := hR.out
      obtain ⟨v1, v2, v3, v4, v5, v6, v7, v8⟩ := H2.out
      have hbw := v1.trans (r9.mono v1.size)
      obtain ⟨zb, zo, rfl, hzl, hz⟩ := (HZ.out.below hbw) i hlt1
      obtain ⟨v, hv⟩ : ∃ v : Nat, into (Z1 i) (n : Int) = (v : Int) := ⟨(into (Z1 i) (n : Int)).toNat, by have := into_rng (d := Z1 i) (n := (n : Int)) (by omega); omega⟩
      have hvn : v < n := by have := into_rng (d := Z1 i) (n := (n : Int)) (by omega); omega
      have hvnI : (v : Int) < (n : Int) := by omega
      have hIn := rinto_any (Z1 i) (n : Int) wr (by omega)
      rw [hv] at hIn
      obtain ⟨x, hx⟩ : ∃ x, L.getD v 0 = x := ⟨_, rfl⟩
      have hLx : L[v]? = some x := by rw [← hx, List.getD_eq_getElem?_getD, List.getElem?_eq_getElem (by omega)]; rfl
      have hxb : x ≤ 60 := by have := r6 v; omega
      obtain ⟨c0, z0⟩ := r2.get v (.int .i64 (x : Int)) (by simp only [vals, List.getElem?_map, hLx]; rfl)
      have hin := inc_getD (L := L) (v := v) (by omega)
      rw [hx] at hin
      obtain ⟨t1, t2, t3⟩ := tok_place (n := n) (i := i) (v := v) HL.out.2.2.2.1 (fun g hg => (HL.out.2.2.2.2.1 g hg).1) r5 hvn
      rw [hin] at t2 t3
      obtain ⟨j, hj⟩ : ∃ j, i % n = j := ⟨_, rfl⟩
      rw [hj] at t1
      have hjn : j < n := by rw [← hj]; exact Nat.mod_lt _ (by omega)
      obtain ⟨W1, hW1⟩ : ∃ W1, wr.setCell ⟨ib, v, none⟩ (.int .i64 ((x : Int) + 1)) = W1 := ⟨_, rfl⟩
      have hbut1 : But (fun j => j = ib) wr W1 := by rw [← hW1]; exact (But.refl (fun j => j = ib) wr).set1 _ _ rfl _
      have hib1 : BoxAt W1 ib (vals (L.set v (x + 1))) := by
        have := r2.set v (.int .i64 ((x + 1 : Nat) : Int))
        rw [vals_set] at this
        rw [← hW1]; exact this
      have hlow1 : Below W0.heap.size W0 W1 := r9.trans (hbut1.below r9.size (fun j hj => by omega))
      have k1 := rtoken_any W1 pa wa pn pc n wc cb c cc v j P.1 P.2 (Wr.cnts P.1 (fun x => L.getD x 0)) (v6.below hlow1) (v7.below hlow1) (r4.but hbut1 r7) v8 HL.out.2.1 (by rw [Wr.cnts_length, HL.out.1]) HL.out.1 (by omega) hn16
        (fun y hy => by have := cnts_le _ _ 60 (fun v => Nat.le_trans (r6 v) (by omega)) y hy; omega) t1 HL.out.2.2.2.2.2.1
      rw [t2] at k1
      have nn0 := ((v5.below hlow1).get 0 _ rfl).1
      have nn1 := ((v5.below hlow1).get 1 _ rfl).1
      have hnl : nb < W1.heap.size := (v5.below hlow1).lt
      have H3 := hidq (And.intro r1 (And.intro hib1 (And.intro (r3.but hbut1 (fun e => hio e.symm)) (And.intro t3 (And.intro r6 (And.intro hlow1 (And.intro r8 (And.intro r7 (And.intro hx hj)))))))))
      have hmod : (i : Int) % (n : Int) = (j : Int) := by rw [← hj]; simp
      have hne0 : ((n : Int) == 0) = false := by simp; omega
      have HW1 := hidq hW1
      have HK1 := hidq k1
      clear r1 r2 r3 r4 r5 r6 r7 r8 r9 v1 v2 v3 v4 v5 v6 v7 v8 hbw hv hx hLx hin t1 t2 t3 hj hbut1 hib1 hlow1 hR hW1 k1
      go_wp2_with fail
      refine hIn.mono ?_
      rintro e w5 ⟨rfl, hw5⟩
      subst w5
      clear hIn
      have hW1v := HW1.out
      go_wp2_with fail
      refine HK1.out.mono ?_
      rintro e w6 ⟨cb2, cc2, rfl, hB6, hcb2, hb6⟩
      obtain ⟨r1, q1, q2, t3, r6, hlow1, r8, r7, hx, hj⟩ := H3.out
      have o6 := q2.below hb6
      have i6 := q1.below hb6
      obtain ⟨c3, z3⟩ := o6.get j (.int .i64 ((Wr.E n i j : Nat) : Int)) (by simp only [vals, List.getElem?_map, evens_get hjn]; rfl)
      obtain ⟨y, hy⟩ : ∃ y, Wr.E n i j = y := ⟨_, rfl⟩
      rw [hy] at c3
      have hyb : y ≤ 61 := by rw [← hy]; have := E_le n i j (by omega); omega
      have HN := hidq (show PsR W0 n P.1 ib ob (i + 1) cb2 (w6.setCell ⟨ob, j, none⟩ (.int .i64 ((y : Int) + 1))) from by
        have hbut2 : But (fun j => j = ob) w6 (w6.setCell ⟨ob, j, none⟩ (.int .i64 ((y : Int) + 1))) := (But.refl (fun j => j = ob) w6).set1 _ _ rfl _
        have s1 := q1.lt
        have s2 := q2.lt
        refine ⟨L.set v (x + 1), by rw [List.length_set]; exact r1, i6.but hbut2 hio, ?_, hB6.but hbut2 (by omega), t3, fun u => ?_, by omega, by omega, ?_⟩
        · have := o6.set j (.int .i64 ((y + 1 : Nat) : Int))
          rw [vals_set, ← hy, ← hj, evens_next (by omega)] at this
          rw [← hy, ← hj]
          exact this
        · rw [List.getD_eq_getElem?_getD, List.getElem?_set]
          split
          · split
            · show x + 1 ≤ i + 1; have := r6 v; omega
            · exact Nat.zero_le _
          · have := r6 u; rw [List.getD_eq_getElem?_getD] at this; omega
        · exact (hlow1.trans (hb6.mono hlow1.size)).trans (hbut2.below (by have := hlow1.size; have := hb6.size; omega) (fun j hj => by omega)))
      clear r1 q1 q2 t3 r6 hlow1 r8 r7 hx hj o6 i6 hB6 hcb2 hb6 hy HK1 HW1 H3 hW1v nn0 nn1 hz
      go_wp2_with fail
      go_roundw
      case rel => exact ⟨i + 1, cb2, cc2, rfl, by go_num, by omega, by omega, HN⟩
      case measure => simp [intOf]; omega
    · have hcond : ¬ ((i : Int) < (n1 : Int)) ∨ ¬ ((i : Int) < 60) := by omega
      obtain ⟨L, r1, r2, r3, r4, r5, r6, r7, r8, r9⟩ := hR.out
      obtain ⟨v1, v2, v3, v4, v5, v6, v7, v8⟩ := H2.out
      obtain ⟨s, hs⟩ : ∃ s : Nat → Nat, (fun x => L.getD x 0) = s := ⟨_, rfl⟩
      have kP := pass_any n c ga gc oa oc ib 0 n P.1 P.2 L wr (v3.below r9) (v4.below r9) (r2.ns _ id) HL.out.1 HL.out.2.1 r1 (fun g hg => (HL.out.2.2.2.2.1 g hg).2) HL.out.2.2.2.2.2.2 hcg hn1 hn16 (fun v => Nat.le_trans (r6 v) (by omega))
      have hev := HL.out.2.2.2.1 (fun x => L.getD x 0)
      rw [r5, hs] at hev
      rw [hs] at kP r4
      have hP9 := v2.below r9
      have p0 := (hP9.get 0 _ rfl).1
      have p1 := (hP9.get 1 _ rfl).1
      have p2 := (hP9.get 2 _ rfl).1
      have hpl : pb < wr.heap.size := hP9.lt
      have HK := hidq kP
      have H5 := hidq (And.intro hev (And.intro r3 (And.intro r4 (And.intro (v1.trans (r9.mono v1.size)) HL.out.1))))
      have HQ := hidq (fun (V : World) (hV : Below wr.heap.size wr V) => And.intro (r3.below hV) (r4.below hV))
      clear r1 r2 r3 r4 r5 r6 r7 r8 r9 v1 v2 v3 v4 v5 v6 v7 v8 hs kP hev hP9 hR H2 HZ
      have hfin : ∀ (X : Prop), (X → X) := fun _ h => h
      clear hfin
      by_cases hlt1 : i < n1
      · have hltI1 : (i : Int) < (n1 : Int) := by omega
        have hge : decide ((i : Int) < 60) = false := decide_eq_false (by omega)
        have hge2 : decide (i < 60) = false := decide_eq_false (by omega)
        clear hcond hlt
        go_wp2_with fail
        refine HK.out.mono ?_
        rintro e w7 ⟨gb, qb, rfl, hG7, hO7, _, _, hb7⟩
        obtain ⟨hev, _, _, hF5, hcgl⟩ := H5.out
        obtain ⟨o7, c7⟩ := HQ.out w7 hb7
        have HR := hidq (show QR w gb cb qb ob (Wr.cnts P.1 s) (P.2.map (Wr.run P.1 s)) (evens n i) w7 from ⟨hG7, c7, hO7, o7, hF5.trans (hb7.mono hF5.size)⟩)
        have HT := hidq (And.intro hev hcgl)
        clear hG7 hO7 o7 c7 hF5 hev hcgl hb7 HK H5 HQ p0 p1 p2 hpl
        go_wp2_with fail
        go_loopw [100] (fun s100 wq => ∃ k : Nat, s100 = .int .i64 (k : Int) ∧ k ≤ c ∧ Hid (QR w gb cb qb ob (Wr.cnts P.1 s) (P.2.map (Wr.run P.1 s)) (evens n i) wq)) (fun s100 _ => c - (intOf s100).toNat)
        case atStart => exact ⟨0, rfl, Nat.zero_le _, HR⟩
        case round =>
          obtain ⟨k, rfl, hk, hR⟩ := hrel
          clear HR
          obtain ⟨hev, hcgl⟩ := HT.out
          by_cases hlt : k < c
          · have hltI : (k : Int) < (c : Int) := by omega
            obtain ⟨x, hx⟩ : ∃ x, (Wr.cnts P.1 s)[k]? = some x := ⟨_, List.getElem?_eq_getElem (by rw [Wr.cnts_length, hcgl]; exact hlt)⟩
            have q1 := (hR.out.1.get k (.int .i64 (x : Int)) (by simp only [vals, List.getElem?_map, hx]; rfl)).1
            have q2 := (hR.out.2.1.get k (.int .i64 (x : Int)) (by simp only [vals, List.getElem?_map, hx]; rfl)).1
            have HN := hidq (fun q => hR.out.drewN q)
            clear hev hx hcgl hR
            go_wp2_with fail
            go_quiet (fail)
            go_wp2_with fail
            go_roundw
            case rel => exact ⟨k + 1, by go_num, by omega, hidq (HN.out _)⟩
            case measure => simp [intOf]; omega
          · have hd3 : decide ((k : Int) < (c : Int)) = false := decide_eq_false (by omega)
            have hd4 : decide (k < c) = false := decide_eq_false (by omega)
            clear hev hcgl
            go_wp2_with fail
            go_loopw [115] (fun s115 wq => ∃ k : Nat, s115 = .int .i64 (k : Int) ∧ k ≤ n ∧ Hid (QR w gb cb qb ob (Wr.cnts P.1 s) (P.2.map (Wr.run P.1 s)) (evens n i) wq)) (fun s115 _ => n - (intOf s115).toNat)
            case atStart => exact ⟨0, rfl, Nat.zero_le _, hR⟩
            case round =>
              obtain ⟨m, rfl, hm, hR⟩ := hrel
              obtain ⟨hev, hcgl⟩ := HT.out
              by_cases hlt3 : m < n
              · have hltI : (m : Int) < (n : Int) := by omega
                obtain ⟨a, ha⟩ : ∃ a, P.2[m]? = some a := ⟨_, List.getElem?_eq_getElem (by rw [hev.1]; exact hlt3)⟩
                obtain ⟨x, hx⟩ : ∃ x, Wr.E n i m = x := ⟨_, rfl⟩
                have hra : Wr.run P.1 s a = x := by rw [← hx]; exact hev.2 m a ha
                have q1 := (hR.out.2.2.1.get m (.int .i64 (x : Int)) (by simp [vals, ha, hra])).1
                have q2 := (hR.out.2.2.2.1.get m (.int .i64 (x : Int)) (by simp only [vals, List.getElem?_map, evens_get hlt3, hx]; rfl)).1
                have HN := hidq (fun q => hR.out.drewN q)
                clear hev ha hx hra hcgl hR
                go_wp2_with fail
                go_quiet (fail)
                go_wp2_with fail
                go_roundw
                case rel => exact ⟨m + 1, by go_num, by omega, hidq (HN.out _)⟩
                case measure => simp [intOf]; omega
              · have hd5 : decide ((m : Int) < (n : Int)) = false := decide_eq_false (by omega)
                have hd6 : decide (m < n) = false := decide_eq_false (by omega)
                have HF := hidq hR.out.2.2.2.2
                clear hR hev hcgl
                go_wp2_with fail
                go_ret
                exact ⟨rfl, HF.out⟩
      · have hge : decide ((i : Int) < (n1 : Int)) = false := decide_eq_false (by omega)
        have hge2 : decide (i < n1) = false := decide_eq_false (by omega)
        clear hcond hlt
        go_wp2_with fail
        refine HK.out.mono ?_
        rintro e w7 ⟨gb, qb, rfl, hG7, hO7, _, _, hb7⟩
        obtain ⟨hev, _, _, hF5, hcgl⟩ := H5.out
        obtain ⟨o7, c7⟩ := HQ.out w7 hb7
        have HR := hidq (show QR w gb cb qb ob (Wr.cnts P.1 s) (P.2.map (Wr.run P.1 s)) (evens n i) w7 from ⟨hG7, c7, hO7, o7, hF5.trans (hb7.mono hF5.size)⟩)
        have HT := hidq (And.intro hev hcgl)
        clear hG7 hO7 o7 c7 hF5 hev hcgl hb7 HK H5 HQ p0 p1 p2 hpl
        go_wp2_with fail
        go_loopw [100] (fun s100 wq => ∃ k : Nat, s100 = .int .i64 (k : Int) ∧ k ≤ c ∧ Hid (QR w gb cb qb ob (Wr.cnts P.1 s) (P.2.map (Wr.run P.1 s)) (evens n i) wq)) (fun s100 _ => c - (intOf s100).toNat)
        case atStart => exact ⟨0, rfl, Nat.zero_le _, HR⟩
        case round =>
          obtain ⟨k, rfl, hk, hR⟩ := hrel
          clear HR
          obtain ⟨hev, hcgl⟩ := HT.out
          by_cases hlt : k < c
          · have hltI : (k : Int) < (c : Int) := by omega
            obtain ⟨x, hx⟩ : ∃ x, (Wr.cnts P.1 s)[k]? = some x := ⟨_, List.getElem?_eq_getElem (by rw [Wr.cnts_length, hcgl]; exact hlt)⟩
            have q1 := (hR.out.1.get k (.int .i64 (x : Int)) (by simp only [vals, List.getElem?_map, hx]; rfl)).1
            have q2 := (hR.out.2.1.get k (.int .i64 (x : Int)) (by simp only [vals, List.getElem?_map, hx]; rfl)).1
            have HN := hidq (fun q => hR.out.drewN q)
            clear hev hx hcgl hR
            go_wp2_with fail
            go_quiet (fail)
            go_wp2_with fail
            go_roundw
            case rel => exact ⟨k + 1, by go_num, by omega, hidq (HN.out _)⟩
            case measure => simp [intOf]; omega
          · have hd3 : decide ((k : Int) < (c : Int)) = false := decide_eq_false (by omega)
            have hd4 : decide (k < c) = false := decide_eq_false (by omega)
            clear hev hcgl
            go_wp2_with fail
            go_loopw [115] (fun s115 wq => ∃ k : Nat, s115 = .int .i64 (k : Int) ∧ k ≤ n ∧ Hid (QR w gb cb qb ob (Wr.cnts P.1 s) (P.2.map (Wr.run P.1 s)) (evens n i) wq)) (fun s115 _ => n - (intOf s115).toNat)
            case atStart => exact ⟨0, rfl, Nat.zero_le _, hR⟩
            case round =>
              obtain ⟨m, rfl, hm, hR⟩ := hrel
              obtain ⟨hev, hcgl⟩ := HT.out
              by_cases hlt3 : m < n
              · have hltI : (m : Int) < (n : Int) := by omega
                obtain ⟨a, ha⟩ : ∃ a, P.2[m]? = some a := ⟨_, List.getElem?_eq_getElem (by rw [hev.1]; exact hlt3)⟩
                obtain ⟨x, hx⟩ : ∃ x, Wr.E n i m = x := ⟨_, rfl⟩
                have hra : Wr.run P.1 s a = x := by rw [← hx]; exact hev.2 m a ha
                have q1 := (hR.out.2.2.1.get m (.int .i64 (x : Int)) (by simp [vals, ha, hra])).1
                have q2 := (hR.out.2.2.2.1.get m (.int .i64 (x : Int)) (by simp only [vals, List.getElem?_map, evens_get hlt3, hx]; rfl)).1
                have HN := hidq (fun q => hR.out.drewN q)
                clear hev ha hx hra hcgl hR
                go_wp2_with fail
                go_quiet (fail)
                go_wp2_with fail
                go_roundw
                case rel => exact ⟨m + 1, by go_num, by omega, hidq (HN.out _)⟩
                case measure => simp [intOf]; omega
              · have hd5 : decide ((m : Int) < (n : Int)) = false := decide_eq_false (by omega)
                have hd6 : decide (m < n) = false := decide_eq_false (by omega)
                have HF := hidq hR.out.2.2.2.2
                clear hR hev hcgl
                go_wp2_with fail
                go_ret
                exact ⟨rfl, HF.out⟩
end Go.Proofs.Ytgkcbihpojkfaaa
