/-
  Layer 10, the document's answer: so many wires: contract.
  Layer 6's reference: draws, parameters: contracts.
  Layer 10: widths that may not be; the law of plans: the call returns true.
  Layer 10's law of plans: the call returns true.
-/
import Derived.Test.YtgkcbihpojkfaaaWireR4All
import Derived.Test.YtgkcbihpojkfaaaFresh5All
namespace Go.Proofs.Ytgkcbihpojkfaaa
open Go.RowKit Go.Sort

theorem Reg.cnt_zero3 {a b c : Nat} {L : Array Bool} (h : L.getD a false = false) (h2 : L.getD b false = false) (h3 : L.getD c false = false) : Reg.cnt [a, b, c] L = 0 := by simp only [Reg.cnt, List.countP_cons, List.countP_nil, h, h2, h3]; decide
theorem Reg.cnt_one3 {a b c : Nat} {L : Array Bool} (h : L.getD a false = true) (h2 : L.getD b false = false) (h3 : L.getD c false = false) : Reg.cnt [a, b, c] L = 1 := by simp only [Reg.cnt, List.countP_cons, List.countP_nil, h, h2, h3]; decide
theorem Reg.cnt_two3 {a b c : Nat} {L : Array Bool} (h : L.getD a false = true) (h2 : L.getD b false = true) (h3 : L.getD c false = false) : Reg.cnt [a, b, c] L = 2 := by simp only [Reg.cnt, List.countP_cons, List.countP_nil, h, h2, h3]; decide
theorem flat_app {P : Program} {k : Nat} {T E : TypeId} (hp : PlainK P k T E) (ty : TypeId) (w : World) (g cap n : Nat) (l : List Value) (h : Flat k w g cap n l) (x : Value) (m : Nat) (ys : List Value) (hs : Src P k T x m ys w) (hb : n + m ≤ 1099511627776) :
    ∃ g' cap' w', (Builtin.append_ #[T, T] ty #[.slice (some ⟨g, 0, none⟩) n cap, x]).run P w = .ok (.slice (some ⟨g', 0, none⟩) (n + m) cap') w' ∧ Flat k w' g' cap' (n + m) (l ++ ys) ∧ But (fun j => j = g) w w' ∧ (g' = g ∨ w.heap.size ≤ g') := by
  obtain ⟨i, z, hT, hi, hz, hsz, hzc, hby⟩ := hp
  exact flat_append k T E ty i z hT hi hz hsz hzc w g cap n l h x m ys hs (by unfold maxLen; omega) (Nat.le_trans (Nat.mul_le_mul hb hby) (by decide))
def CEnd (rb lo m : Nat) (cw : Option Addr) (wn wc : Nat) (l : List Nat) (w : World) : Prop :=
  ∃ g c, BoxAt w rb [.slice (some ⟨g, 0, none⟩) m c, .slice cw wn wc] ∧ Flat 1 w g c m (vals l) ∧ lo ≤ g
theorem CEnd.below {rb lo m : Nat} {cw : Option Addr} {wn wc : Nat} {l : List Nat} {w w' : World} (hB : Below w.heap.size w w') (h : CEnd rb lo m cw wn wc l w) : CEnd rb lo m cw wn wc l w' := by
  obtain ⟨g, c, h1, h2, h3⟩ := h
  exact ⟨g, c, h1.below hB, h2.but (S := fun _ => False) (But.of_below hB) id, h3⟩
set_option linter.unusedVariables false in
def rcount6R (ab bb cb rb lo pn pc qn qc rn rc wn wc : Nat) (ap bp cp cw : Option Addr) (PA PB PC : List Nat) : List (Value → Nat → World → Prop) :=
  [fun v _ w => ∃ g, v = .slice (some ⟨g, 0, none⟩) 0 0 ∧ g < w.heap.size ∧ lo ≤ g,
   fun v _ _ => v = .pointer (some ⟨ab, 0, none⟩),
   fun v _ _ => v = .slice ap pn pc,
   fun v x w => ∃ g c, v = .slice (some ⟨g, 0, none⟩) pn c ∧ (lo ≤ g ∧ 0 ≤ x) ∧ (x = 0 → Flat 1 w g c pn (vals PA)),
   fun v _ _ => v = .pointer (some ⟨bb, 0, none⟩),
   fun v _ _ => v = .slice bp qn qc,
   fun v x w => ∃ g c, v = .slice (some ⟨g, 0, none⟩) (pn + qn) c ∧ (lo ≤ g ∧ 1 ≤ x) ∧ (x = 1 → Flat 1 w g c (pn + qn) (vals (PA ++ PB))),
   fun v _ _ => v = .pointer (some ⟨cb, 0, none⟩),
   fun v _ _ => v = .slice cp rn rc,
   fun v x w => ∃ g c, v = .slice (some ⟨g, 0, none⟩) (pn + qn + rn) c ∧ (lo ≤ g ∧ 2 ≤ x) ∧ (x = 2 → Flat 1 w g c (pn + qn + rn) (vals (PA ++ PB ++ PC))),
   fun v _ _ => v = .pointer (some ⟨cb, 1, none⟩),
   fun v _ _ => v = .slice cw wn wc,
   fun v x w => ∃ g c, v = .agg #[.slice (some ⟨g, 0, none⟩) (pn + qn + rn) c, .slice cw wn wc] ∧ (lo ≤ g ∧ 2 ≤ x) ∧ (x = 2 → Flat 1 w g c (pn + qn + rn) (vals (PA ++ PB ++ PC))),
   fun _ _ _ => True]
theorem rcount6R_kept (ab bb cb rb lo pn pc qn qc rn rc wn wc : Nat) (ap bp cp cw : Option Addr) (PA PB PC : List Nat) : Reg.GAllKept (Reg.PPres (fun j => j = rb ∨ lo ≤ j)) (rcount6R ab bb cb rb lo pn pc qn qc rn rc wn wc ap bp cp cw PA PB PC) :=
  ⟨(fun v x w x' w' hp h => by obtain ⟨g, h1, h2, h3⟩ := h; exact ⟨g, h1, Nat.lt_of_lt_of_le h2 hp.2.2.size, h3⟩), (fun _ _ _ _ _ _ h => h), (fun _ _ _ _ _ _ h => h), (fun v x w x' w' hp h => by obtain ⟨g, c, h1, h0, h2⟩ := h; have hx := hp.1; refine ⟨g, c, h1, ⟨h0.1, by omega⟩, fun e => ?_⟩; have hxe : x' = x := (by omega); exact (h2 (by omega)).but (S := fun _ => False) (But.of_below (hp.2.1 hxe)) id), (fun _ _ _ _ _ _ h => h), (fun _ _ _ _ _ _ h => h), (fun v x w x' w' hp h => by obtain ⟨g, c, h1, h0, h2⟩ := h; have hx := hp.1; refine ⟨g, c, h1, ⟨h0.1, by omega⟩, fun e => ?_⟩; have hxe : x' = x := (by omega); exact (h2 (by omega)).but (S := fun _ => False) (But.of_below (hp.2.1 hxe)) id), (fun _ _ _ _ _ _ h => h), (fun _ _ _ _ _ _ h => h), (fun v x w x' w' hp h => by obtain ⟨g, c, h1, h0, h2⟩ := h; have hx := hp.1; refine ⟨g, c, h1, ⟨h0.1, by omega⟩, fun e => ?_⟩; have hxe : x' = x := (by omega); exact (h2 (by omega)).but (S := fun _ => False) (But.of_below (hp.2.1 hxe)) id), (fun _ _ _ _ _ _ h => h), (fun _ _ _ _ _ _ h => h), (fun v x w x' w' hp h => by obtain ⟨g, c, h1, h0, h2⟩ := h; have hx := hp.1; refine ⟨g, c, h1, ⟨h0.1, by omega⟩, fun e => ?_⟩; have hxe : x' = x := (by omega); exact (h2 (by omega)).but (S := fun _ => False) (But.of_below (hp.2.1 hxe)) id), (fun _ _ _ _ _ _ _ => trivial), trivial⟩

set_option maxRecDepth 20000 in
set_option maxHeartbeats 8000000 in
theorem rcount0_any (w : World) (f : Nat) : Calls Try.prog 11 #[.int .i64 (f : Int), .int .i64 1] w (NetEnd [] [f] w) := by
  obtain ⟨rb, hrb⟩ : ∃ rb, w.heap.size = rb := ⟨_, rfl⟩
  obtain ⟨W1, hW1⟩ : ∃ W1, w.alloc (.cells #[.slice none 0 0, .slice none 0 0] 32) = W1 := ⟨_, rfl⟩
  have hB1 := BoxAt.new w [.slice none 0 0, .slice none 0 0] 32
  rw [show w.alloc (.cells [.slice none 0 0, .slice none 0 0].toArray 32) = W1 from hW1, hrb] at hB1
  have hb1 : Below w.heap.size w W1 := by rw [← hW1]; exact (Below.refl _ _).alloc (Nat.le_refl _) _
  have hs1 : W1.heap.size = rb + 1 := by rw [← hW1]; simp [hrb]
  obtain ⟨W2, hW2⟩ : ∃ W2, W1.alloc (.cells #[] 3) = W2 := ⟨_, rfl⟩
  have hb2 : Below W1.heap.size W1 W2 := by rw [← hW2]; exact (Below.refl _ _).alloc (Nat.le_refl _) _
  have hs2 : W2.heap.size = rb + 2 := by rw [← hW2]; simp [hs1]
  obtain ⟨W3, hW3⟩ : ∃ W3, W2.alloc (.cells #[.int .i64 (f : Int)] 3) = W3 := ⟨_, rfl⟩
  have hB3 := BoxAt.new W2 [.int .i64 (f : Int)] 3
  rw [show W2.alloc (.cells [.int .i64 (f : Int)].toArray 3) = W3 from hW3, hs2] at hB3
  have hb3 : Below W2.heap.size W2 W3 := by rw [← hW3]; exact (Below.refl _ _).alloc (Nat.le_refl _) _
  have hs3 : W3.heap.size = rb + 3 := by rw [← hW3]; simp [hs2]
  have hR3 := (hB1.below hb2).below hb3
  obtain ⟨d0, y0⟩ := hR3.get 0 _ rfl
  obtain ⟨d1, y1⟩ := hR3.get 1 _ rfl
  obtain ⟨W9, hW9⟩ : ∃ W9, (W3.setCell ⟨rb, 0, none⟩ (.slice (some ⟨rb + 1, 0, none⟩) 0 0)).setCell ⟨rb, 1, none⟩ (.slice (some ⟨rb + 2, 0, none⟩) 1 1) = W9 := ⟨_, rfl⟩
  have hB9 : BoxAt W9 rb [.slice (some ⟨rb + 1, 0, none⟩) 0 0, .slice (some ⟨rb + 2, 0, none⟩) 1 1] := by rw [← hW9]; exact box_cells (cs := [.slice (some ⟨rb + 1, 0, none⟩) 0 0, .slice (some ⟨rb + 2, 0, none⟩) 1 1]) hR3 rfl
  have hb9 : But (fun j => j = rb) W3 W9 := by rw [← hW9]; exact but_setCells rb [.slice (some ⟨rb + 1, 0, none⟩) 0 0, .slice (some ⟨rb + 2, 0, none⟩) 1 1] 0 W3 W3 (But.refl _ _)
  have q0 := (hB9.get 0 _ rfl).1
  have q1 := (hB9.get 1 _ rfl).1
  have hb03 : Below w.heap.size w W3 := (hb1.trans (hb2.mono hb1.size)).trans (hb3.mono (by omega))
  have HEnd := hidq (show NetEnd [] [f] w (.returned (.agg #[.slice (some ⟨rb + 1, 0, none⟩) 0 0, .slice (some ⟨rb + 2, 0, none⟩) 1 1])) W9 from
    ⟨_, 0, 0, _, 1, 1, rfl, rfl, rfl, .inr ⟨rb + 1, rfl, flat_nil (by have := hb9.size; omega)⟩, .inr ⟨rb + 2, rfl, flat_box (l := [f]) (hB3.but hb9 (by omega)) rfl (by decide)⟩,
      (fun j e => by obtain ⟨q, hq, rfl⟩ := e; cases hq; show w.heap.size ≤ rb + 1; omega), (fun j e => by obtain ⟨q, hq, rfl⟩ := e; cases hq; show w.heap.size ≤ rb + 2; omega), hb03.trans (hb9.below (by omega) (fun j hj => by omega))⟩)
  have HW9 := hidq hW9
  clear hB1 hb1 hb2 hB3 hb3 hR3 hB9 hb9 hb03 hW9
  go_enter Try.func11, Try.ntmps11
  go_wp2_with fail
  rw [HW9.out]
  exact bodyPost_ret (v := .agg #[.slice (some ⟨rb + 1, 0, none⟩) 0 0, .slice (some ⟨rb + 2, 0, none⟩) 1 1]) (by simp [results, Try.results11, go_sem, q0, q1]) rfl HEnd.out
theorem range_split (f h : Nat) : List.range' f (2 * h) = List.range' f h ++ List.range' (f + h) h := by
  apply List.ext_getElem?
  intro j
  rw [List.getElem?_append, List.length_range']
  by_cases h1 : j < h
  · rw [if_pos h1, List.getElem?_range' (by omega), List.getElem?_range' h1]
  · rw [if_neg h1]
    by_cases h2 : j < 2 * h
    · rw [List.getElem?_range' h2, List.getElem?_range' (by omega)]; congr 1; omega
    · rw [List.getElem?_eq_none (by rw [List.length_range']; omega), List.getElem?_eq_none (by rw [List.length_range']; omega)]
set_option maxRecDepth 20000 in
set_option maxHeartbeats 16000000 in
theorem rcount_any : ∀ (d : Nat) (w : World) (f n : Nat), n = 2 ^ d → n ≤ 16 → f + n ≤ 64 →
    Calls Try.prog 11 #[.int .i64 (f : Int), .int .i64 (n : Int)] w (NetEnd (Wr.count d (List.range' f n)).1 (Wr.count d (List.range' f n)).2 w) := by
  intro d
  induction d with
  | zero =>
    intro w f n hn _ _
    have hn1 : n = 1 := hn
    subst hn1
    exact rcount0_any w f
  | succ d ih =>
    intro w f n hn hn16 hfn
    obtain ⟨h, hh⟩ : ∃ h, h = 2 ^ d := ⟨_, rfl⟩
    have hn2 : n = 2 * h := by rw [hn, Wr.pow_succ2, hh]
    have hpos : 1 ≤ h := by have := Nat.two_pow_pos d; omega
    have hne : ((n : Int) == 1) = false := by simp; omega
    have hdiv : (n : Int) / 2 = (h : Int) := by omega
    have hh8 : h ≤ 8 := by omega
    obtain ⟨fh, hfh⟩ : ∃ fh, f + h = fh := ⟨_, rfl⟩
    have hfhI : (f : Int) + (h : Int) = (fh : Int) := by omega
    have hfb : f ≤ 64 := by omega
    have hsp : List.range' f n = List.range' f h ++ List.range' fh h := by rw [hn2, range_split, hfh]
    have hlx : (List.range' f h).length = 2 ^ d := by rw [List.length_range', hh]
    have hly : (List.range' fh h).length = 2 ^ d := by rw [List.length_range', hh]
    have et : (List.range' f n).take (2 ^ d) = List.range' f h := by rw [hsp, List.take_left' hlx]
    have ed : (List.range' f n).drop (2 ^ d) = List.range' fh h := by rw [hsp, List.drop_left' hlx]
    have e1 : (Wr.count (d + 1) (List.range' f n)).1 = (Wr.count d (List.range' f h)).1 ++ (Wr.count d (List.range' fh h)).1 ++ (Wr.merge d (Wr.count d (List.range' f h)).2 (Wr.count d (List.range' fh h)).2).1 := by
      show (Wr.count d ((List.range' f n).take (2 ^ d))).1 ++ (Wr.count d ((List.range' f n).drop (2 ^ d))).1 ++ (Wr.merge d (Wr.count d ((List.range' f n).take (2 ^ d))).2 (Wr.count d ((List.range' f n).drop (2 ^ d))).2).1 = _
      rw [et, ed]
    have e2 : (Wr.count (d + 1) (List.range' f n)).2 = (Wr.merge d (Wr.count d (List.range' f h)).2 (Wr.count d (List.range' fh h)).2).2 := by
      show (Wr.merge d (Wr.count d ((List.range' f n).take (2 ^ d))).2 (Wr.count d ((List.range' f n).drop (2 ^ d))).2).2 = _
      rw [et, ed]
    rw [e1, e2]
    have q1 := Wr.count_length d _ hlx
    have q2 := Wr.count_length d _ hly
    have g1 := count_gates d _ hlx
    have g2 := count_gates d _ hly
    have g3 := merge_gates d _ _ q1 q2
    have gb := mg_rng (d := d) (by rw [← hh]; omega)
    have cb0 : cg d ≤ 100 := cg_le (by rcases Nat.lt_or_ge 4 d with h' | h'; (have := Nat.pow_le_pow_right (n := 2) (by decide) (show 5 ≤ d from h'); omega); exact h')
    have kk1 := fun W => ih W f h hh (by omega) (by omega)
    have kk2 := fun W => ih W fh h hh (by omega) (by omega)
    generalize hA : Wr.count d (List.range' f h) = A at q1 g1 g3 kk1 ⊢
    generalize hB : Wr.count d (List.range' fh h) = B at q2 g2 g3 kk2 ⊢
    have kk3 := fun W xa ya xc yc (hx : NsAt W xa (fun _ => False) A.2) (hy : NsAt W ya (fun _ => False) B.2) => rmerge_any d W xa ya xc yc h (fun _ => False) (fun _ => False) A.2 B.2 hx hy (q1.trans hh.symm) (q2.trans hh.symm) hh (by omega)
    generalize hC : Wr.merge d A.2 B.2 = C at g3 kk3 ⊢
    have HL := hidq (And.intro g1 (And.intro g2 (And.intro g3 (And.intro gb (And.intro cb0 (And.intro q1 (And.intro q2 hh)))))))
    have HK1 := hidq (kk1)
    have HK2 := hidq (kk2)
    have HK3 := hidq (kk3)
    obtain ⟨rb, hrb⟩ : ∃ rb, w.heap.size = rb := ⟨_, rfl⟩
    obtain ⟨W1, hW1⟩ : ∃ W1, w.alloc (.cells #[.slice none 0 0, .slice none 0 0] 32) = W1 := ⟨_, rfl⟩
    have hB1 := BoxAt.new w [.slice none 0 0, .slice none 0 0] 32
    rw [show w.alloc (.cells [.slice none 0 0, .slice none 0 0].toArray 32) = W1 from hW1, hrb] at hB1
    have hb1 : Below w.heap.size w W1 := by rw [← hW1]; exact (Below.refl _ _).alloc (Nat.le_refl _) _
    have H1 := hidq (And.intro hB1 hb1)
    have HW := hidq hW1
    clear ih kk1 kk2 kk3 hn2 hpos hh g1 g2 g3 gb cb0 q1 q2 hn hn16 hfn hsp hlx hly et ed e1 e2 hA hB hC hB1 hb1 hW1 hfh
    go_enter Try.func11, Try.ntmps11
    go_wp2_with fail
    rw [HW.out]
    refine (HK1.out W1).mono ?_
    rintro e w3 ⟨ap, pn, pc, aw, an, ac, rfl, hpn, han, hS3, hT3, hi3, hj3, hb3⟩
    obtain rfl : h = an := by rw [← han, HL.out.2.2.2.2.2.1]; exact HL.out.2.2.2.2.2.2.2
    obtain ⟨ab, hab⟩ : ∃ ab, w3.heap.size = ab := ⟨_, rfl⟩
    obtain ⟨W3, hW3⟩ : ∃ W3, w3.alloc (.cells #[.slice ap pn pc, .slice aw h ac] 32) = W3 := ⟨_, rfl⟩
    have hB3 := BoxAt.new w3 [.slice ap pn pc, .slice aw h ac] 32
    rw [show w3.alloc (.cells [.slice ap pn pc, .slice aw h ac].toArray 32) = W3 from hW3, hab] at hB3
    have hbW3 : Below w3.heap.size w3 W3 := by rw [← hW3]; exact (Below.refl _ _).alloc (Nat.le_refl _) _
    have hb03 : Below w.heap.size w W3 := (H1.out.2.trans (hb3.mono H1.out.2.size)).trans (hbW3.mono (by have := H1.out.2.size; have := hb3.size; omega))
    have H3 := hidq (And.intro ((H1.out.1.below hb3).below hbW3) (And.intro hb03 (And.intro hB3 (And.intro (hS3.below hbW3) (And.intro (hT3.below hbW3) hpn)))))
    have NA := hidq (fun j (hj : inB ap j) (e : j = rb) => (show False from by have := hi3 j hj; have h9 := H1.out.1.lt; omega))
    have HW3 := hidq hW3
    clear hB3 hbW3 hb03 hS3 hT3 hi3 hj3 hb3 hpn han hW3 H1 HW
    go_wp2_with fail
    rw [HW3.out]
    refine (HK2.out W3).mono ?_
    rintro e w5 ⟨bp, qn, qc, bw, bn, bc, rfl, hqn, hbn, hS5, hT5, hi5, hj5, hb5⟩
    obtain rfl : h = bn := by rw [← hbn, HL.out.2.2.2.2.2.2.1]; exact HL.out.2.2.2.2.2.2.2
    obtain ⟨bb, hbb⟩ : ∃ bb, w5.heap.size = bb := ⟨_, rfl⟩
    obtain ⟨W5, hW5⟩ : ∃ W5, w5.alloc (.cells #[.slice bp qn qc, .slice bw h bc] 32) = W5 := ⟨_, rfl⟩
    have hB5 := BoxAt.new w5 [.slice bp qn qc, .slice bw h bc] 32
    rw [show w5.alloc (.cells [.slice bp qn qc, .slice bw h bc].toArray 32) = W5 from hW5, hbb] at hB5
    have hbW5 : Below w5.heap.size w5 W5 := by rw [← hW5]; exact (Below.refl _ _).alloc (Nat.le_refl _) _
    obtain ⟨v1, v2, v3, v4, v5, v6⟩ := H3.out
    have hb35 := hb5.trans (hbW5.mono hb5.size)
    have hb05 : Below w.heap.size w W5 := v2.trans (hb35.mono v2.size)
    have k3 := HK3.out W5 aw bw ac bc (nsAt_of (v5.below hb35) (fun _ _ => id)) (nsAt_of (hT5.below hbW5) (fun _ _ => id))
    have a1 := ((v3.below hb35).get 1 _ rfl).1
    have b1 := (hB5.get 1 _ rfl).1
    have hal : ab < W5.heap.size := (v3.below hb35).lt
    have hbl : bb < W5.heap.size := hB5.lt
    have H5 := hidq (And.intro (v1.below hb35) (And.intro hb05 (And.intro (v3.below hb35) (And.intro (v4.below hb35) (And.intro v6 (And.intro hB5 (And.intro (hS5.below hbW5) hqn)))))))
    have NB := hidq (fun j (hj : inB bp j) (e : j = rb) => (show False from by have := hi5 j hj; have h9 := v1.lt; omega))
    clear v1 v2 v3 v4 v5 v6 hB5 hbW5 hb35 hb05 hS5 hT5 hi5 hj5 hb5 hqn hbn H3 HW3
    go_wp2_with fail
    refine k3.mono ?_
    rintro e w7 ⟨cp, rn, rc, cw, wn, wc, rfl, hrn, hwn, hS7, hT7, hi7, hj7, hb7⟩
    clear k3
    obtain ⟨cb, hcb⟩ : ∃ cb, w7.heap.size = cb := ⟨_, rfl⟩
    obtain ⟨W0, hW0⟩ : ∃ W0, w7.alloc (.cells #[.slice cp rn rc, .slice cw wn wc] 32) = W0 := ⟨_, rfl⟩
    have hB7 := BoxAt.new w7 [.slice cp rn rc, .slice cw wn wc] 32
    rw [show w7.alloc (.cells [.slice cp rn rc, .slice cw wn wc].toArray 32) = W0 from hW0, hcb] at hB7
    have hbW0 : Below w7.heap.size w7 W0 := by rw [← hW0]; exact (Below.refl _ _).alloc (Nat.le_refl _) _
    obtain ⟨v1, v2, v3, v4, v5, v6, v7, v8⟩ := H5.out
    have hb57 := hb7.trans (hbW0.mono hb7.size)
    obtain ⟨PA, hPA⟩ : ∃ PA, flatP A.1 = PA := ⟨_, rfl⟩
    obtain ⟨PB, hPB⟩ : ∃ PB, flatP B.1 = PB := ⟨_, rfl⟩
    obtain ⟨PC, hPC⟩ : ∃ PC, flatP C.1 = PC := ⟨_, rfl⟩
    obtain ⟨lo, hlo⟩ : ∃ lo, W0.heap.size = lo := ⟨_, rfl⟩
    have s1 := v1.below hb57
    have s3 := v3.below hb57
    have s4 := v4.below hb57
    have s6 := v6.below hb57
    have s7 := v7.below hb57
    have s8 := hS7.below hbW0
    have s9 := hT7.below hbW0
    rw [hPA] at s4
    rw [hPB] at s7
    rw [hPC] at s8
    have hrl := v1.lt
    have h57 := hb57.size
    have hrbl : rb < lo := by omega
    have l5 := v3.lt
    have l6 := v6.lt
    have hrw : w.heap.size < W5.heap.size := by omega
    have hrab : rb ≠ ab := fun e => by
      have h1 := (v1.get 1 _ rfl).1
      have h2 := a1
      rw [e, h2] at h1
      injection h1 with h1; injection h1 with _ h1 _
      have := HL.out.2.2.2.2.2.2.2; have := Nat.two_pow_pos d; omega
    have hrbb : rb ≠ bb := fun e => by
      have h1 := (v1.get 1 _ rfl).1
      have h2 := b1
      rw [e, h2] at h1
      injection h1 with h1; injection h1 with _ h1 _
      have := HL.out.2.2.2.2.2.2.2; have := Nat.two_pow_pos d; omega
    have h75 := hb7.size
    have hrcb : rb ≠ cb := by omega
    have lc := hB7.lt
    have hpb : pn ≤ 200 := by rw [← v5, flatP_length, HL.out.1]; have := HL.out.2.2.2.2.1; omega
    have hqb : qn ≤ 200 := by rw [← v8, flatP_length, HL.out.2.1]; have := HL.out.2.2.2.2.1; omega
    have hrnb : rn ≤ 400 := by rw [← hrn, flatP_length, HL.out.2.2.1]; have := HL.out.2.2.2.1.2; omega
    have HS := hidq (fun W (hW : But (fun j => j = rb ∨ lo ≤ j) W0 W) => (show SlAt 1 W ap pc pn (vals PA) ∧ SlAt 1 W bp qc qn (vals PB) ∧ SlAt 1 W cp rc rn (vals PC) from by
      refine ⟨s4.but hW (fun j hj e => ?_), s7.but hW (fun j hj e => ?_), s8.but hW (fun j hj e => ?_)⟩
      · rcases e with e | e
        · exact NA.out j hj e
        · have := s4.lt j hj; omega
      · rcases e with e | e
        · exact NB.out j hj e
        · have := s7.lt j hj; omega
      · rcases e with e | e
        · have := hi7 j hj; omega
        · have := s8.lt j hj; omega))
    have FX := hidq (fun W (hW : But (fun j => j = rb ∨ lo ≤ j) W0 W) => (show W.cell? ⟨ab, 0, none⟩ = some (.slice ap pn pc) ∧ W.cell? ⟨bb, 0, none⟩ = some (.slice bp qn qc) ∧ W.cell? ⟨cb, 0, none⟩ = some (.slice cp rn rc) ∧ W.cell? ⟨cb, 1, none⟩ = some (.slice cw wn wc) from by
      have x3 := s3.but hW (fun e => e.elim (fun e => hrab e.symm) (fun e => by omega))
      have x6 := s6.but hW (fun e => e.elim (fun e => hrbb e.symm) (fun e => by omega))
      have x7 := hB7.but hW (fun e => e.elim (fun e => hrcb e.symm) (fun e => by omega))
      exact ⟨(x3.get 0 _ rfl).1, (x6.get 0 _ rfl).1, (x7.get 0 _ rfl).1, (x7.get 1 _ rfl).1⟩))
    have HB0 := hidq s1
    have HF : ∀ (x : Nat) (w w' : World), Below w.heap.size w w' → ((x ≤ 2 → BoxAt w rb [.slice none 0 0, .slice none 0 0]) ∧ (x = 3 → CEnd rb lo (pn + qn + rn) cw wn wc (PA ++ PB ++ PC) w)) → ((x ≤ 2 → BoxAt w' rb [.slice none 0 0, .slice none 0 0]) ∧ (x = 3 → CEnd rb lo (pn + qn + rn) cw wn wc (PA ++ PB ++ PC) w')) :=
      fun _ _ _ hB h => ⟨fun e => (h.1 e).below hB, fun e => (h.2 e).below hB⟩
    have HT := hidq (And.intro v2 (And.intro hb57 (And.intro s9 (And.intro hj7 (And.intro hPA (And.intro hPB (And.intro hPC (And.intro v5 (And.intro v8 (And.intro hrn hwn))))))))))
    have HW0 := hidq hW0
    have hs57 : W5.heap.size ≤ lo := by omega
    have hwr : w.heap.size ≤ rb := by omega
    clear v1 v2 v3 v4 v5 v6 v7 v8 s1 s3 s4 s6 s7 s8 s9 hB7 hbW0 hb57 hPA hPB hPC hS7 hT7 hi7 hj7 hb7 hrn hwn hrl h57 l5 l6 hrab hrbb hrcb lc h75 hW0 a1 b1 hal hbl H5 NA NB hW5
    go_wp2_with fail
    rw [HW0.out]
    clear HW0
    refine Reg.wp_region_ghost (Reg.gofList (rcount6R ab bb cb rb lo pn pc qn qc rn rc wn wc ap bp cp cw PA PB PC)) (Reg.PPres (fun j => j = rb ∨ lo ≤ j)) (Reg.PInv [6, 9, 13] (fun j => j = rb ∨ lo ≤ j) W0 (fun x w => (x ≤ 2 → BoxAt w rb [.slice none 0 0, .slice none 0 0]) ∧ (x = 3 → CEnd rb lo (pn + qn + rn) cw wn wc (PA ++ PB ++ PC) w))) 0 (by kernel_rfl) (by kernel_rfl) (Reg.GAllKept.at _ (rcount6R_kept ab bb cb rb lo pn pc qn qc rn rc wn wc ap bp cp cw PA PB PC)) (Reg.PInv.start 14 ⟨fun _ => HB0.out.drew, (fun e => by cases e)⟩) ⟨?_, ?_, ?_, ?_, ?_, ?_, ?_, ?_, ?_, ?_, ?_, ?_, ?_, ?_, trivial⟩ ?_
    · refine Reg.GStepAt.plain (i := 0) rfl ?_
      intro x L ev w hI hk hp hA
      have hcc := hA.const
      clear hA hp
      have hSz := hI.2.1.size
      refine Reg.out_new (v := .slice (some ⟨w.heap.size, 0, none⟩) 0 0) (w' := w.alloc (.cells #[] 3)) ?_ ⟨x, ⟨w.heap.size, rfl, by simp, by omega⟩, Reg.PPres.light ((Below.refl _ _).alloc (Nat.le_refl _) _), Reg.PInv.light HF hI 0 (by decide) ((Below.refl _ _).alloc (Nat.le_refl _) _)⟩
      clear hI hk
      go_simp
    · refine Reg.GStepAt.plain (i := 1) rfl ?_
      intro x L ev w hI hk hp hA
      have e5 : ev (.tmp 5) = .pointer (some ⟨ab, 0, none⟩) := hA.oldNone 5 (by kernel_rfl)
      have hcc := hA.const
      clear hA hp
      refine Reg.out_value (v := .pointer (some ⟨ab, 0, none⟩)) ?_ ⟨x, rfl, Reg.PPres.refl _ _ _, Reg.PInv.light HF hI 1 (by decide) (Below.refl _ _)⟩
      go_simp
    · refine Reg.GStepAt.plain (i := 2) rfl ?_
      intro x L ev w hI hk hp hA
      have e31 : ev (.tmp 31) = .pointer (some ⟨ab, 0, none⟩) := hA.val 1 _ 31 rfl (hp ⟨1, .data⟩ (by simp) rfl) rfl
      have hcc := hA.const
      clear hA hp
      obtain ⟨f1, f2, f3, f4⟩ := FX.out w hI.2.1
      refine Reg.out_value (v := .slice ap pn pc) ?_ ⟨x, rfl, Reg.PPres.refl _ _ _, Reg.PInv.light HF hI 2 (by decide) (Below.refl _ _)⟩
      go_simp
    · refine Reg.GStepAt.plain (i := 3) rfl ?_
      intro x L ev w hI hk hp hA
      have e30 : (fun v _ w => ∃ g, v = .slice (some ⟨g, 0, none⟩) 0 0 ∧ g < w.heap.size ∧ lo ≤ g) (ev (.tmp 30)) x w := hA.val 0 _ 30 rfl (hp ⟨0, .data⟩ (by simp) rfl) rfl
      have e32 : ev (.tmp 32) = .slice ap pn pc := hA.val 2 _ 32 rfl (hp ⟨2, .data⟩ (by simp) rfl) rfl
      have hcc := hA.const
      clear hA hp
      obtain ⟨g0, e30, h30, h31⟩ := e30
      have hSz := hI.2.1.size
      obtain ⟨g', c', w', hrun, hF', hb', hg'⟩ := fresh_append plainN 24 w g0 (flat_nil h30) (.slice ap pn pc) pn (vals PA) ((HS.out w hI.2.1).1.src Try.underlying24) (by omega)
      refine Reg.out_new (v := .slice (some ⟨g', 0, none⟩) pn c') (w' := w') ?_ ⟨x, ⟨g', c', rfl, ⟨hg'.elim (fun e => by omega) (fun h => by omega), Nat.zero_le _⟩, fun _ => hF'⟩, Reg.PPres.light hb', Reg.PInv.light HF hI 3 (by decide) hb'⟩
      simp [execOp, resolve, invoke, builtin, e30, e32, hrun, Result.andThen]
    · refine Reg.GStepAt.plain (i := 4) rfl ?_
      intro x L ev w hI hk hp hA
      have e6 : ev (.tmp 6) = .pointer (some ⟨bb, 0, none⟩) := hA.oldNone 6 (by kernel_rfl)
      have hcc := hA.const
      clear hA hp
      refine Reg.out_value (v := .pointer (some ⟨bb, 0, none⟩)) ?_ ⟨x, rfl, Reg.PPres.refl _ _ _, Reg.PInv.light HF hI 4 (by decide) (Below.refl _ _)⟩
      go_simp
    · refine Reg.GStepAt.plain (i := 5) rfl ?_
      intro x L ev w hI hk hp hA
      have e34 : ev (.tmp 34) = .pointer (some ⟨bb, 0, none⟩) := hA.val 4 _ 34 rfl (hp ⟨4, .data⟩ (by simp) rfl) rfl
      have hcc := hA.const
      clear hA hp
      obtain ⟨f1, f2, f3, f4⟩ := FX.out w hI.2.1
      refine Reg.out_value (v := .slice bp qn qc) ?_ ⟨x, rfl, Reg.PPres.refl _ _ _, Reg.PInv.light HF hI 5 (by decide) (Below.refl _ _)⟩
      go_simp
    · refine Reg.GStepAt.plain (i := 6) rfl ?_
      intro x L ev w hI hk hp hA
      have e33 : (fun v x w => ∃ g c, v = .slice (some ⟨g, 0, none⟩) pn c ∧ (lo ≤ g ∧ 0 ≤ x) ∧ (x = 0 → Flat 1 w g c pn (vals PA))) (ev (.tmp 33)) x w := hA.val 3 _ 33 rfl (hp ⟨3, .data⟩ (by simp) rfl) rfl
      have e35 : ev (.tmp 35) = .slice bp qn qc := hA.val 5 _ 35 rfl (hp ⟨5, .data⟩ (by simp) rfl) rfl
      have hcc := hA.const
      have NL := Reg.not_listed hA 6 9 _ rfl ⟨6, .data⟩ (by simp) rfl hk
      have NL2 := Reg.not_listed hA 6 13 _ rfl ⟨6, .phase⟩ (by simp) rfl hk
      clear hA hp
      have hx0 : x = 0 := hI.1.trans (Reg.cnt_zero3 (Reg.getD_true hk) NL NL2)
      obtain ⟨g0, c0, e33, h40, h41⟩ := e33
      have q2 := h41 hx0
      have hSz := hI.2.1.size
      obtain ⟨g', c', w', hrun, hF', hb', hg'⟩ := flat_app plainN 24 w g0 c0 pn (vals PA) q2 (.slice bp qn qc) qn (vals PB) ((HS.out w hI.2.1).2.1.src Try.underlying24) (by omega)
      have hbS : But (fun j => j = rb ∨ lo ≤ j) w w' := hb'.mono (fun j _ e => .inr (by omega))
      have hgl : lo ≤ g' := hg'.elim (fun e => by omega) (fun h => by omega)
      refine Reg.out_new (v := .slice (some ⟨g', 0, none⟩) (pn + qn) c') (w' := w') ?_ ⟨x + 1, ⟨g', c', rfl, ⟨hgl, by omega⟩, fun _ => by rw [vals_append]; exact hF'⟩, Reg.PPres.heavy hbS, Reg.PInv.heavy hI 6 (by decide) (by simp) hk hbS ⟨fun e => (hI.2.2.1 (by omega)).but hb' (by omega), fun e => by omega⟩⟩
      simp [execOp, resolve, invoke, builtin, e33, e35, hrun, Result.andThen]
    · refine Reg.GStepAt.plain (i := 7) rfl ?_
      intro x L ev w hI hk hp hA
      have e7 : ev (.tmp 7) = .pointer (some ⟨cb, 0, none⟩) := hA.oldNone 7 (by kernel_rfl)
      have hcc := hA.const
      clear hA hp
      refine Reg.out_value (v := .pointer (some ⟨cb, 0, none⟩)) ?_ ⟨x, rfl, Reg.PPres.refl _ _ _, Reg.PInv.light HF hI 7 (by decide) (Below.refl _ _)⟩
      go_simp
    · refine Reg.GStepAt.plain (i := 8) rfl ?_
      intro x L ev w hI hk hp hA
      have e37 : ev (.tmp 37) = .pointer (some ⟨cb, 0, none⟩) := hA.val 7 _ 37 rfl (hp ⟨7, .data⟩ (by simp) rfl) rfl
      have hcc := hA.const
      clear hA hp
      obtain ⟨f1, f2, f3, f4⟩ := FX.out w hI.2.1
      refine Reg.out_value (v := .slice cp rn rc) ?_ ⟨x, rfl, Reg.PPres.refl _ _ _, Reg.PInv.light HF hI 8 (by decide) (Below.refl _ _)⟩
      go_simp
    · refine Reg.GStepAt.plain (i := 9) rfl ?_
      intro x L ev w hI hk hp hA
      have e36 : (fun v x w => ∃ g c, v = .slice (some ⟨g, 0, none⟩) (pn + qn) c ∧ (lo ≤ g ∧ 1 ≤ x) ∧ (x = 1 → Flat 1 w g c (pn + qn) (vals (PA ++ PB)))) (ev (.tmp 36)) x w := hA.val 6 _ 36 rfl (hp ⟨6, .data⟩ (by simp) rfl) rfl
      have e38 : ev (.tmp 38) = .slice cp rn rc := hA.val 8 _ 38 rfl (hp ⟨8, .data⟩ (by simp) rfl) rfl
      have hcc := hA.const
      have L6 : L.getD 6 false = true := hp ⟨6, .data⟩ (by simp) rfl
      have NL2 := Reg.not_listed hA 9 13 _ rfl ⟨9, .phase⟩ (by simp) rfl hk
      clear hA hp
      have hx0 : x = 1 := hI.1.trans (Reg.cnt_one3 L6 (Reg.getD_true hk) NL2)
      obtain ⟨g0, c0, e36, h40, h41⟩ := e36
      have q2 := h41 hx0
      have hSz := hI.2.1.size
      obtain ⟨g', c', w', hrun, hF', hb', hg'⟩ := flat_app plainN 24 w g0 c0 (pn + qn) (vals (PA ++ PB)) q2 (.slice cp rn rc) rn (vals PC) ((HS.out w hI.2.1).2.2.src Try.underlying24) (by omega)
      have hbS : But (fun j => j = rb ∨ lo ≤ j) w w' := hb'.mono (fun j _ e => .inr (by omega))
      have hgl : lo ≤ g' := hg'.elim (fun e => by omega) (fun h => by omega)
      refine Reg.out_new (v := .slice (some ⟨g', 0, none⟩) (pn + qn + rn) c') (w' := w') ?_ ⟨x + 1, ⟨g', c', rfl, ⟨hgl, by omega⟩, fun _ => by rw [vals_append]; exact hF'⟩, Reg.PPres.heavy hbS, Reg.PInv.heavy hI 9 (by decide) (by simp) hk hbS ⟨fun e => (hI.2.2.1 (by omega)).but hb' (by omega), fun e => by omega⟩⟩
      simp [execOp, resolve, invoke, builtin, e36, e38, hrun, Result.andThen]
    · refine Reg.GStepAt.plain (i := 10) rfl ?_
      intro x L ev w hI hk hp hA
      have e7 : ev (.tmp 7) = .pointer (some ⟨cb, 0, none⟩) := hA.oldNone 7 (by kernel_rfl)
      have hcc := hA.const
      clear hA hp
      refine Reg.out_value (v := .pointer (some ⟨cb, 1, none⟩)) ?_ ⟨x, rfl, Reg.PPres.refl _ _ _, Reg.PInv.light HF hI 10 (by decide) (Below.refl _ _)⟩
      go_simp
    · refine Reg.GStepAt.plain (i := 11) rfl ?_
      intro x L ev w hI hk hp hA
      have e40 : ev (.tmp 40) = .pointer (some ⟨cb, 1, none⟩) := hA.val 10 _ 40 rfl (hp ⟨10, .data⟩ (by simp) rfl) rfl
      have hcc := hA.const
      clear hA hp
      obtain ⟨f1, f2, f3, f4⟩ := FX.out w hI.2.1
      refine Reg.out_value (v := .slice cw wn wc) ?_ ⟨x, rfl, Reg.PPres.refl _ _ _, Reg.PInv.light HF hI 11 (by decide) (Below.refl _ _)⟩
      go_simp
    · refine Reg.GStepAt.plain (i := 12) rfl ?_
      intro x L ev w hI hk hp hA
      have e39 : (fun v x w => ∃ g c, v = .slice (some ⟨g, 0, none⟩) (pn + qn + rn) c ∧ (lo ≤ g ∧ 2 ≤ x) ∧ (x = 2 → Flat 1 w g c (pn + qn + rn) (vals (PA ++ PB ++ PC)))) (ev (.tmp 39)) x w := hA.val 9 _ 39 rfl (hp ⟨9, .data⟩ (by simp) rfl) rfl
      have e41 : ev (.tmp 41) = .slice cw wn wc := hA.val 11 _ 41 rfl (hp ⟨11, .data⟩ (by simp) rfl) rfl
      have hcc := hA.const
      clear hA hp
      obtain ⟨g, c, e39, h1, h2⟩ := e39
      refine Reg.out_value (v := .agg #[.slice (some ⟨g, 0, none⟩) (pn + qn + rn) c, .slice cw wn wc]) ?_ ⟨x, ⟨g, c, rfl, h1, h2⟩, Reg.PPres.refl _ _ _, Reg.PInv.light HF hI 12 (by decide) (Below.refl _ _)⟩
      clear hI hk h2
      go_simp
    · refine Reg.GStepAt.plain (i := 13) rfl ?_
      intro x L ev w hI hk hp hA
      have e4 : ev (.tmp 4) = .pointer (some ⟨rb, 0, none⟩) := hA.oldNone 4 (by kernel_rfl)
      have e42 : (fun v x w => ∃ g c, v = .agg #[.slice (some ⟨g, 0, none⟩) (pn + qn + rn) c, .slice cw wn wc] ∧ (lo ≤ g ∧ 2 ≤ x) ∧ (x = 2 → Flat 1 w g c (pn + qn + rn) (vals (PA ++ PB ++ PC)))) (ev (.tmp 42)) x w := hA.val 12 _ 42 rfl (hp ⟨12, .data⟩ (by simp) rfl) rfl
      have hcc := hA.const
      have L6 : L.getD 6 false = true := hp ⟨6, .phase⟩ (by simp) rfl
      have L9 : L.getD 9 false = true := hp ⟨9, .chain⟩ (by simp) rfl
      clear hA hp
      have hx2 : x = 2 := hI.1.trans (Reg.cnt_two3 L6 L9 (Reg.getD_true hk))
      have hBx := hI.2.2.1 (by omega)
      obtain ⟨g, c, e42, q1, q2⟩ := e42
      have r2 := q2 hx2
      obtain ⟨c0, y0⟩ := hBx.get 0 _ rfl
      obtain ⟨c1, y1⟩ := hBx.get 1 _ rfl
      have hb1 : But (fun j => j = rb) w (w.setCells rb 0 [.slice (some ⟨g, 0, none⟩) (pn + qn + rn) c, .slice cw wn wc]) := but_setCells _ _ _ _ _ (But.refl _ _)
      have hbS : But (fun j => j = rb ∨ lo ≤ j) w (w.setCells rb 0 [.slice (some ⟨g, 0, none⟩) (pn + qn + rn) c, .slice cw wn wc]) := hb1.mono (fun j _ e => .inl e)
      have hbx : BoxAt (w.setCells rb 0 [.slice (some ⟨g, 0, none⟩) (pn + qn + rn) c, .slice cw wn wc]) rb [.slice (some ⟨g, 0, none⟩) (pn + qn + rn) c, .slice cw wn wc] := box_cells hBx rfl
      refine Reg.out_skipP (w' := w.setCells rb 0 [.slice (some ⟨g, 0, none⟩) (pn + qn + rn) c, .slice cw wn wc]) ?_ ⟨x + 1, trivial, Reg.PPres.heavy hbS, Reg.PInv.heavy hI 13 (by decide) (by simp) hk hbS ⟨fun e => by omega, fun _ => ⟨g, c, hbx, r2.but hb1 (by omega), q1.1⟩⟩⟩
      clear hI hbS hb1 hbx hBx r2 q2
      go_simp
      rfl
    intro gx L act wz hall hI hF
    have g30 : (fun v _ w => ∃ g, v = .slice (some ⟨g, 0, none⟩) 0 0 ∧ g < w.heap.size ∧ lo ≤ g) (act.eval (.tmp 30)) gx wz := hF.val 0 _ 30 rfl (hall 0 (by simp)) rfl
    have g31 : act.eval (.tmp 31) = .pointer (some ⟨ab, 0, none⟩) := hF.val 1 _ 31 rfl (hall 1 (by simp)) rfl
    have g32 : act.eval (.tmp 32) = .slice ap pn pc := hF.val 2 _ 32 rfl (hall 2 (by simp)) rfl
    have g33 : (fun v x w => ∃ g c, v = .slice (some ⟨g, 0, none⟩) pn c ∧ (lo ≤ g ∧ 0 ≤ x) ∧ (x = 0 → Flat 1 w g c pn (vals PA))) (act.eval (.tmp 33)) gx wz := hF.val 3 _ 33 rfl (hall 3 (by simp)) rfl
    have g34 : act.eval (.tmp 34) = .pointer (some ⟨bb, 0, none⟩) := hF.val 4 _ 34 rfl (hall 4 (by simp)) rfl
    have g35 : act.eval (.tmp 35) = .slice bp qn qc := hF.val 5 _ 35 rfl (hall 5 (by simp)) rfl
    have g36 : (fun v x w => ∃ g c, v = .slice (some ⟨g, 0, none⟩) (pn + qn) c ∧ (lo ≤ g ∧ 1 ≤ x) ∧ (x = 1 → Flat 1 w g c (pn + qn) (vals (PA ++ PB)))) (act.eval (.tmp 36)) gx wz := hF.val 6 _ 36 rfl (hall 6 (by simp)) rfl
    have g37 : act.eval (.tmp 37) = .pointer (some ⟨cb, 0, none⟩) := hF.val 7 _ 37 rfl (hall 7 (by simp)) rfl
    have g38 : act.eval (.tmp 38) = .slice cp rn rc := hF.val 8 _ 38 rfl (hall 8 (by simp)) rfl
    have g39 : (fun v x w => ∃ g c, v = .slice (some ⟨g, 0, none⟩) (pn + qn + rn) c ∧ (lo ≤ g ∧ 2 ≤ x) ∧ (x = 2 → Flat 1 w g c (pn + qn + rn) (vals (PA ++ PB ++ PC)))) (act.eval (.tmp 39)) gx wz := hF.val 9 _ 39 rfl (hall 9 (by simp)) rfl
    have g40 : act.eval (.tmp 40) = .pointer (some ⟨cb, 1, none⟩) := hF.val 10 _ 40 rfl (hall 10 (by simp)) rfl
    have g41 : act.eval (.tmp 41) = .slice cw wn wc := hF.val 11 _ 41 rfl (hall 11 (by simp)) rfl
    have g42 : (fun v x w => ∃ g c, v = .agg #[.slice (some ⟨g, 0, none⟩) (pn + qn + rn) c, .slice cw wn wc] ∧ (lo ≤ g ∧ 2 ≤ x) ∧ (x = 2 → Flat 1 w g c (pn + qn + rn) (vals (PA ++ PB ++ PC)))) (act.eval (.tmp 42)) gx wz := hF.val 12 _ 42 rfl (hall 12 (by simp)) rfl
    have hact := hF.act [30, 31, 32, 33, 34, 35, 36, 37, 38, 39, 40, 41, 42] (by kernel_rfl)
    obtain ⟨hxz, hBz, hFz⟩ := Reg.PInv.done hI (fun j hj => hall j (by simp at hj ⊢; omega))
    clear hF hall
    simp only [List.foldl_cons, List.foldl_nil] at hact
    rw [g31, g32, g34, g35, g37, g38, g40, g41] at hact
    clear g31 g32 g34 g35 g37 g38 g40 g41
    generalize act.eval (.tmp 30) = u30 at hact g30
    generalize act.eval (.tmp 33) = u33 at hact g33
    generalize act.eval (.tmp 36) = u36 at hact g36
    generalize act.eval (.tmp 39) = u39 at hact g39
    generalize act.eval (.tmp 42) = u42 at hact g42
    simp only [List.setIfInBounds_toArray, List.set_cons_succ, List.set_cons_zero] at hact
    subst hact
    obtain ⟨g, c, z1, z2, z3⟩ := hFz.2 rfl
    obtain ⟨v2, hb57, s9, hj7, hPA, hPB, hPC, v5, v8, hrn, hwn⟩ := HT.out
    have q0 := (z1.get 0 _ rfl).1
    have q1 := (z1.get 1 _ rfl).1
    have hs5 := v2.size
    have HEnd := hidq (show NetEnd (A.1 ++ B.1 ++ C.1) C.2 w (.returned (.agg #[.slice (some ⟨g, 0, none⟩) (pn + qn + rn) c, .slice cw wn wc])) wz from
      ⟨_, _, _, _, _, _, rfl, by rw [flatP_append, flatP_append, List.length_append, List.length_append, v5, v8, hrn], hwn, .inr ⟨g, rfl, by rw [flatP_append, flatP_append, hPA, hPB, hPC]; exact z2⟩,
        s9.but hBz (fun j hj e => e.elim (fun e => by have := hj7 j hj; omega) (fun e => by have := s9.lt j hj; omega)),
        (fun j e => by obtain ⟨q, hq, rfl⟩ := e; cases hq; show w.heap.size ≤ g; omega), (fun j hj => by have := hj7 j hj; omega),
        (v2.trans (hb57.mono hs5)).trans (hBz.below (by have := hb57.size; omega) (fun j hj => by rcases hj with e | e <;> omega))⟩)
    clear hFz hBz hI hxz g30 g33 g36 g39 g42 HF HS FX HB0 HT z1 z2 z3 v2 hb57 s9 hj7 hPA hPB hPC v5 v8 hrn hwn hs5
    go_wp2_with fail
    exact bodyPost_ret (v := .agg #[.slice (some ⟨g, 0, none⟩) (pn + qn + rn) c, .slice cw wn wc]) (by simp [results, Try.results11, go_sem, q0, q1]) rfl HEnd.out
end Go.Proofs.Ytgkcbihpojkfaaa

namespace Go.Proofs.Ytgkcbihpojkfaaa
open Go.RowKit

theorem rinto_any (d n : Int) (w : World) (hn : n ≤ 9223372036854775807) :
    Calls Try.prog 16 #[.int .i64 d, .int .i64 n] w fun e w' => e = .returned (.int .i64 (into d n)) ∧ w' = w := by
  by_cases h : n < 1
  · rw [into_lo h]
    go_enter Try.func16, Try.ntmps16
    go_wp2
    go_ret
    exact ⟨rfl, rfl⟩
  · rw [into_hi h]
    have h1 : decide (n < 1) = false := decide_eq_false h
    have hn0 : (n == 0) = false := by simp; omega
    have hn1 : 1 ≤ n := by omega
    by_cases hm : d.tmod n < 0
    · have e1 := tmod_emod_neg hn1 hm
      have e2 := Int.lt_tmod_of_pos d (show 0 < n by omega)
      have hw : wrap64 (d.tmod n + n) = d % n := by unfold wrap64; omega
      have HW : Hid (∀ _ : Unit, wrap64 (d.tmod n + n) = d % n) := fun _ => hw
      clear e1 hw e2
      go_enter Try.func16, Try.ntmps16
      go_wp2
      go_ret
      exact ⟨by rw [← HW ()]; rfl, rfl⟩
    · have e1 : d.tmod n = d % n := tmod_emod_nonneg hn1 (by omega)
      have HW : Hid (∀ _ : Unit, d.tmod n = d % n) := fun _ => e1
      have hm1 : decide (d.tmod n < 0) = false := decide_eq_false hm
      clear e1
      go_enter Try.func16, Try.ntmps16
      go_wp2
      go_ret
      exact ⟨by rw [← HW ()]; rfl, rfl⟩

/-- The reference's Legal at a kind that is no Net. -/
theorem rlegal_any (k p : Int) (w : World) (hk : 1 ≤ k ∧ k ≤ 3) : Calls Try.prog 10 #[.int .i64 k, .int .i64 p] w fun e w' => e = .returned (.int .i64 (legal k p)) ∧ w' = w := by
  have hk1 : decide (k < 1) = false := decide_eq_false (by omega)
  have hk2 : decide (4 < k) = false := decide_eq_false (by omega)
  have hk4 : (k == 4) = false := by simp; omega
  by_cases hp : p < 1
  · rw [legal_par (by omega) (by omega)]
    clear hk
    go_enter Try.func10, Try.ntmps10
    go_wp2
    go_ret
    exact ⟨rfl, rfl⟩
  · have hp1 : decide (p < 1) = false := decide_eq_false hp
    by_cases hq : 16 < p
    · rw [legal_par (by omega) (by omega)]
      clear hk hp
      go_enter Try.func10, Try.ntmps10
      go_wp2
      go_ret
      exact ⟨rfl, rfl⟩
    · have hq1 : decide (16 < p) = false := decide_eq_false hq
      rw [legal_ok (by omega) (by omega) (by omega)]
      clear hk hp hq
      go_enter Try.func10, Try.ntmps10
      go_wp2
      go_ret
      exact ⟨rfl, rfl⟩
end Go.Proofs.Ytgkcbihpojkfaaa

namespace Go.Proofs.Ytgkcbihpojkfaaa
open Go.RowKit Go.Sort

theorem rlegal4_any (p : Int) (w : World) : Calls Try.prog 10 #[.int .i64 4, .int .i64 p] w fun e w' => e = .returned (.int .i64 (legal 4 p)) ∧ w' = w := by
  by_cases h : 1 ≤ p ∧ p ≤ 16
  · have h16 : p = 1 ∨ p = 2 ∨ p = 3 ∨ p = 4 ∨ p = 5 ∨ p = 6 ∨ p = 7 ∨ p = 8 ∨ p = 9 ∨ p = 10 ∨ p = 11 ∨ p = 12 ∨ p = 13 ∨ p = 14 ∨ p = 15 ∨ p = 16 := by omega
    rcases h16 with rfl | rfl | rfl | rfl | rfl | rfl | rfl | rfl | rfl | rfl | rfl | rfl | rfl | rfl | rfl | rfl
    all_goals
      first
        | rw [show legal 4 _ = 0 from by decide]
        | rw [show legal 4 _ = 5 from by decide]
      clear h
      go_enter Try.func10, Try.ntmps10
      go_wp2_with fail
      go_ret
      exact ⟨rfl, rfl⟩
  · rw [legal_par (by decide) h]
    by_cases h1 : p < 1
    · clear h
      go_enter Try.func10, Try.ntmps10
      go_wp2_with fail
      go_ret
      exact ⟨rfl, rfl⟩
    · have h2 : 16 < p := by omega
      have h3 : decide (p < 1) = false := decide_eq_false h1
      clear h h1
      go_enter Try.func10, Try.ntmps10
      go_wp2_with fail
      go_ret
      exact ⟨rfl, rfl⟩
theorem legal4_cases (p : Int) : legal 4 p = 5 ∨ (legal 4 p = 0 ∧ ∃ d : Nat, d ≤ 4 ∧ p = ((2 ^ d : Nat) : Int)) := by
  by_cases h : 1 ≤ p ∧ p ≤ 16
  · by_cases h2 : pow2 p = false
    · exact .inl (legal_net (by decide) h ⟨rfl, h2⟩)
    · refine .inr ⟨legal_ok (by decide) h (fun e => h2 e.2), ?_⟩
      have h3 : p = 1 ∨ p = 2 ∨ p = 4 ∨ p = 8 ∨ p = 16 := by
        have : pow2 p = true := by cases h4 : pow2 p with | true => rfl | false => exact absurd h4 h2
        exact of_decide_eq_true this
      rcases h3 with rfl | rfl | rfl | rfl | rfl
      · exact ⟨0, by decide, rfl⟩
      · exact ⟨1, by decide, rfl⟩
      · exact ⟨2, by decide, rfl⟩
      · exact ⟨3, by decide, rfl⟩
      · exact ⟨4, by decide, rfl⟩
  · exact .inl (legal_par (by decide) h)

set_option maxRecDepth 20000 in
set_option maxHeartbeats 4000000 in
theorem make_no (p : Int) (w : World) (h : legal 4 p = 5) : Calls Try.prog 9 #[.int .i64 p] w fun e w' => e = .returned (.tuple #[.agg #[.int .i64 0, .slice none 0 0, .slice none 0 0], .int .i64 5]) ∧ Below w.heap.size w w' := by
  have hL := legal_any 4 p (w.alloc (.cells #[.int .i64 0, .slice none 0 0, .slice none 0 0] 26))
  rw [h] at hL
  have hB0 := BoxAt.new w [.int .i64 0, .slice none 0 0, .slice none 0 0] 26
  have hb0 : Below w.heap.size w (w.alloc (.cells #[.int .i64 0, .slice none 0 0, .slice none 0 0] 26)) := (Below.refl _ _).alloc (Nat.le_refl _) _
  have H0 := hidq (And.intro hB0 hb0)
  clear h hB0 hb0
  go_enter Try.func9, Try.ntmps9
  go_wp2_with fail
  refine hL.mono ?_
  rintro e w1 ⟨rfl, hb1⟩
  clear hL
  obtain ⟨rb, hrb⟩ : ∃ rb, w.heap.size = rb := ⟨_, rfl⟩
  obtain ⟨hB0, hb0⟩ := H0.out
  have hB1 := hB0.below hb1
  rw [hrb] at hB1
  have hb01 : Below w.heap.size w w1 := hb0.trans (hb1.mono (by simp))
  obtain ⟨d0, y0⟩ := hB1.get 0 _ rfl
  obtain ⟨d1, y1⟩ := hB1.get 1 _ rfl
  obtain ⟨d2, y2⟩ := hB1.get 2 _ rfl
  have hrl : rb < w1.heap.size := hB1.lt
  obtain ⟨W9, hW9⟩ : ∃ W9, ((w1.setCell ⟨rb, 0, none⟩ (.int .i64 0)).setCell ⟨rb, 1, none⟩ (.slice none 0 0)).setCell ⟨rb, 2, none⟩ (.slice none 0 0) = W9 := ⟨_, rfl⟩
  have hB9 : BoxAt W9 rb [.int .i64 0, .slice none 0 0, .slice none 0 0] := by rw [← hW9]; exact box_cells (cs := [.int .i64 0, .slice none 0 0, .slice none 0 0]) hB1 rfl
  have hb9 : But (fun j => j = rb) w1 W9 := by rw [← hW9]; exact but_setCells rb [.int .i64 0, .slice none 0 0, .slice none 0 0] 0 w1 w1 (But.refl _ _)
  have q0 := (hB9.get 0 _ rfl).1
  have q1 := (hB9.get 1 _ rfl).1
  have q2 := (hB9.get 2 _ rfl).1
  have HEnd := hidq (hb01.trans (hb9.below hb01.size (fun j hj => by omega)))
  have HW9 := hidq hW9
  clear hB0 hb0 hB1 hb1 H0 hb01 hB9 hb9 hW9
  go_wp2_with fail
  rw [HW9.out]
  exact bodyPost_ret (v := .tuple #[.agg #[.int .i64 0, .slice none 0 0, .slice none 0 0], .int .i64 5]) (by simp [results, Try.results9, go_sem, q0, q1, q2]) rfl ⟨rfl, HEnd.out⟩
end Go.Proofs.Ytgkcbihpojkfaaa

namespace Go.Proofs.Ytgkcbihpojkfaaa
open Go.RowKit Go.Sort

set_option maxRecDepth 20000 in
set_option maxHeartbeats 4000000 in
theorem wirePlans_no (p : Int) (w : World) (hp : legal 4 p = 5) : Calls Try.prog 3 #[.int .i64 p] w fun e w' => e = .returned (.bool true) ∧ Below w.heap.size w w' := by
  have hA := awake10_any w
  have hMk := fun W => make_no p W hp
  have hLg := fun W => rlegal4_any p W
  rw [hp] at hLg
  clear hp
  go_enter Try.func3, Try.ntmps3
  go_wp2_with fail
  refine hA.mono ?_
  rintro e w1 ⟨rfl, hb1⟩
  clear hA
  go_wp2_with fail
  refine (hMk _).mono ?_
  rintro e w3 ⟨rfl, hb3⟩
  obtain ⟨pb, hpb⟩ : ∃ pb, w3.heap.size = pb := ⟨_, rfl⟩
  obtain ⟨W, hW⟩ : ∃ W, w3.alloc (.cells #[.int .i64 0, .slice none 0 0, .slice none 0 0] 26) = W := ⟨_, rfl⟩
  have hb4 : Below w3.heap.size w3 W := by rw [← hW]; exact (Below.refl _ _).alloc (Nat.le_refl _) _
  have hB := BoxAt.new w3 [.int .i64 0, .slice none 0 0, .slice none 0 0] 26
  rw [show w3.alloc (.cells [.int .i64 0, .slice none 0 0, .slice none 0 0].toArray 26) = W from hW, hpb] at hB
  have HF := hidq ((hb1.trans (hb3.mono hb1.size)).trans (hb4.mono (by have := hb1.size; have := hb3.size; omega)))
  have HW := hidq hW
  have d0 := (hB.get 0 _ rfl).1
  have d1 := (hB.get 1 _ rfl).1
  have d2 := (hB.get 2 _ rfl).1
  have hpl : pb < W.heap.size := hB.lt
  clear hb1 hb3 hb4 hB hW hMk
  go_wp2_with fail
  rw [HW.out]
  refine (hLg W).mono ?_
  rintro e w5 ⟨rfl, hw5⟩
  subst w5
  clear hLg HW
  go_wp2_with fail
  go_ret
  exact ⟨rfl, HF.out⟩

set_option maxRecDepth 20000 in
set_option maxHeartbeats 8000000 in
theorem wirePlans_yes (d : Nat) (hd : d ≤ 4) (w : World) : Calls Try.prog 3 #[.int .i64 ((2 ^ d : Nat) : Int)] w fun e w' => e = .returned (.bool true) ∧ Below w.heap.size w w' := by
  have hA := awake10_any w
  obtain ⟨n, hn⟩ : ∃ n, 2 ^ d = n := ⟨_, rfl⟩
  obtain ⟨hleg, hn1, hn16⟩ := legal_pow hd hn.symm
  have hMk := fun W => make_ok d n hd hn.symm W
  have hLg := fun W => rlegal4_any (n : Int) W
  have hCt := fun W => rcount_any d W 0 n hn.symm hn16 (by omega)
  have hcgl := count_gates d (List.range (2 ^ d)) (by simp)
  have houl := Wr.count_length d (List.range (2 ^ d)) (by simp)
  have hcg := cg_le hd
  rw [hn] at hcgl houl ⊢
  rw [hleg] at hLg
  rw [← List.range_eq_range'] at hCt
  obtain ⟨P, hP⟩ : ∃ P, Wr.count d (List.range n) = P := ⟨_, rfl⟩
  rw [hP] at hcgl houl hCt
  obtain ⟨c, hc⟩ : ∃ c, cg d = c := ⟨_, rfl⟩
  rw [hc] at hcgl hcg
  have hpl2 : (flatP P.1).length = 2 * c := by rw [flatP_length, hcgl]
  have HMk := hidq hMk
  have HCt := hidq hCt
  have HPc := hidq (And.intro hP hc)
  have HL := hidq (And.intro hcgl (And.intro houl hpl2))
  have hn0 : ((0 : Nat) : Int) = 0 := rfl
  clear hMk hCt hcgl houl hleg hn hd hP hc hpl2
  go_enter Try.func3, Try.ntmps3
  go_wp2_with fail
  refine hA.mono ?_
  rintro e w1 ⟨rfl, hb1⟩
  clear hA
  go_wp2_with fail
  refine (HMk.out _).mono ?_
  rintro e w3 ⟨ga, gc, oa, oc, rfl, hS, hN, hb3⟩
  rw [HPc.out.1] at hS hN
  rw [HPc.out.2] at hS ⊢
  obtain ⟨pb, hpb⟩ : ∃ pb, w3.heap.size = pb := ⟨_, rfl⟩
  obtain ⟨W, hW⟩ : ∃ W, w3.alloc (.cells #[.int .i64 (n : Int), .slice ga c gc, .slice oa n oc] 26) = W := ⟨_, rfl⟩
  have hb4 : Below w3.heap.size w3 W := by rw [← hW]; exact (Below.refl _ _).alloc (Nat.le_refl _) _
  have hB := BoxAt.new w3 [.int .i64 (n : Int), .slice ga c gc, .slice oa n oc] 26
  rw [show w3.alloc (.cells [.int .i64 (n : Int), .slice ga c gc, .slice oa n oc].toArray 26) = W from hW, hpb] at hB
  have hF : Below w.heap.size w W := (hb1.trans (hb3.mono hb1.size)).trans (hb4.mono (by have := hb1.size; have := hb3.size; omega))
  have HW := hidq hW
  have H1 := hidq (And.intro hF (And.intro hB (And.intro (hS.below hb4) (hN.below hb4))))
  clear hb1 hb3 hb4 hB hF hS hN hW HMk
  go_wp2_with fail
  rw [HW.out]
  clear HW
  refine (hLg W).mono ?_
  rintro e w5 ⟨rfl, hw5⟩
  subst w5
  clear hLg
  go_wp2_with fail
  refine (HCt.out W).mono ?_
  rintro e w7 ⟨pa, pn, pc, wa, wn, wc, rfl, hpn, hwn, hS7, hT7, _, _, hb7⟩
  obtain rfl : 2 * c = pn := by rw [← hpn, HL.out.2.2]
  obtain rfl : n = wn := by rw [← hwn, HL.out.2.1]
  obtain ⟨pn, hpn2⟩ : ∃ pn, 2 * c = pn := ⟨_, rfl⟩
  rw [hpn2] at hS7 ⊢
  obtain ⟨nb, hnb⟩ : ∃ nb, w7.heap.size = nb := ⟨_, rfl⟩
  obtain ⟨V, hV⟩ : ∃ V, w7.alloc (.cells #[.slice pa pn pc, .slice wa n wc] 32) = V := ⟨_, rfl⟩
  have hbV : Below w7.heap.size w7 V := by rw [← hV]; exact (Below.refl _ _).alloc (Nat.le_refl _) _
  have hB7 := BoxAt.new w7 [.slice pa pn pc, .slice wa n wc] 32
  rw [show w7.alloc (.cells [.slice pa pn pc, .slice wa n wc].toArray 32) = V from hV, hnb] at hB7
  obtain ⟨v1, v2, v3, v4⟩ := H1.out
  have hbWV := hb7.trans (hbV.mono hb7.size)
  have hBP := v2.below hbWV
  have d0 := (hBP.get 0 _ rfl).1
  have d1 := (hBP.get 1 _ rfl).1
  have d2 := (hBP.get 2 _ rfl).1
  have f0 := (hB7.get 0 _ rfl).1
  have hpl : pb < V.heap.size := hBP.lt
  have hnl : nb < V.heap.size := hB7.lt
  have h2c : (2 : Int) * (c : Int) = (pn : Int) := by omega
  have H2 := hidq (And.intro (v1.trans (hbWV.mono v1.size)) (And.intro hBP (And.intro (v3.below hbWV) (And.intro (v4.below hbWV) (And.intro hB7 (And.intro (nsAt_of (S := fun _ => False) (hS7.below hbV) (fun _ _ => id)) (nsAt_of (S := fun _ => False) (hT7.below hbV) (fun _ _ => id))))))))
  have hpb2 : pn ≤ 200 := by omega
  clear v1 v2 v3 v4 hbWV hBP hB7 hbV hb7 hS7 hT7 hpn hwn H1 HCt
  go_wp2_with fail
  clear d0 d2 f0 hV
  go_loopw [72] (fun s72 wr => ∃ k : Nat, s72 = .int .i64 (k : Int) ∧ k ≤ c ∧ Hid (Below V.heap.size V wr)) (fun s72 _ => c - (intOf s72).toNat)
  case atStart => exact ⟨0, rfl, Nat.zero_le _, hidq (Below.refl _ _)⟩
  case round =>
    obtain ⟨k, rfl, hk, hR⟩ := hrel
    by_cases hlt : k < c
    · have hltI : (k : Int) < (c : Int) := by omega
      obtain ⟨v1, v2, v3, v4, v5, v6, v7⟩ := H2.out
      obtain ⟨g, hg⟩ : ∃ g, P.1[k]? = some g := ⟨_, List.getElem?_eq_getElem (by rw [HL.out.1]; exact hlt)⟩
      obtain ⟨a, b⟩ := g
      obtain ⟨f1, f2⟩ := flatG_get _ _ _ hg
      obtain ⟨f3, f4⟩ := flatP_get _ _ _ hg
      obtain ⟨gb, rfl, hgl, q1⟩ := (v3.below hR.out).cell f1
      obtain ⟨gb', hgb', _, q2⟩ := (v3.below hR.out).cell f2
      cases hgb'
      obtain ⟨X, hX⟩ : ∃ X, wr.alloc (.cells #[.int .i64 (a : Int), .int .i64 (b : Int)] 35) = X := ⟨_, rfl⟩
      have hbX : Below wr.heap.size wr X := by rw [← hX]; exact (Below.refl _ _).alloc (Nat.le_refl _) _
      obtain ⟨xb, hxb⟩ : ∃ xb, wr.heap.size = xb := ⟨_, rfl⟩
      have hBX := BoxAt.new wr [.int .i64 (a : Int), .int .i64 (b : Int)] 35
      rw [show wr.alloc (.cells [.int .i64 (a : Int), .int .i64 (b : Int)].toArray 35) = X from hX, hxb] at hBX
      have hVX := hR.out.trans (hbX.mono hR.out.size)
      obtain ⟨qb, qo, rfl, hql, _, q3⟩ := (v6.below hVX) _ _ f3
      obtain ⟨qb', qo', hq', _, _, q4⟩ := (v6.below hVX) _ _ f4
      cases hq'
      obtain ⟨k2, hk2⟩ : ∃ k2, 2 * k = k2 := ⟨_, rfl⟩
      dsimp only at q1 q2 q3 q4
      rw [hk2] at q3 q4
      have x0 := (hBX.get 0 _ rfl).1
      have x1 := (hBX.get 1 _ rfl).1
      have n0 := ((v5.below hVX).get 0 _ rfl).1
      have hnX : nb < X.heap.size := (v5.below hVX).lt
      have hxX : xb < X.heap.size := hBX.lt
      have hk2I : (2 : Int) * (k : Int) = (k2 : Int) := by omega
      have hk2l : (k2 : Int) < (pn : Int) := by omega
      have hk3l : (k2 : Int) + 1 < (pn : Int) := by omega
      have hk2b : k2 ≤ 200 := by omega
      have HB := hidq (fun q => below_drewN hVX q)
      have HX := hidq hX
      clear v1 v2 v3 v4 v5 v6 v7 hg f1 f2 f3 f4 hbX hBX hVX hR hX hk2
      go_wp2_with fail
      rw [HX.out]
      clear q1 q2
      go_quiet (fail)
      go_wp2_with fail
      go_roundw
      case rel => exact ⟨k + 1, by go_num, by omega, hidq (HB.out _)⟩
      case measure => simp [intOf]; omega
    · have hd3 : decide ((k : Int) < (c : Int)) = false := decide_eq_false (by omega)
      have hd4 : decide (k < c) = false := decide_eq_false (by omega)
      obtain ⟨v1, v2, v3, v4, v5, v6, v7⟩ := H2.out
      have hP := v2.below hR.out
      have e2 := (hP.get 2 _ rfl).1
      have hpw : pb < wr.heap.size := hP.lt
      have H3 := hidq (And.intro (v1.trans (hR.out.mono v1.size)) (And.intro (v4.below hR.out) (And.intro (v5.below hR.out) (v7.below hR.out))))
      obtain ⟨Y, hY⟩ : ∃ Y, Y = wr := ⟨_, rfl⟩
      subst hY
      clear v1 v2 v3 v4 v5 v6 v7 hP hR H2
      go_wp2_with fail
      go_loopw [102] (fun s102 wq => ∃ k : Nat, s102 = .int .i64 (k : Int) ∧ k ≤ n ∧ wq = Y) (fun s102 _ => n - (intOf s102).toNat)
      case atStart => exact ⟨0, rfl, Nat.zero_le _, rfl⟩
      case round =>
        obtain ⟨i, rfl, hi, hwq⟩ := hrel
        subst hwq
        by_cases hlt : i < n
        · have hltI : (i : Int) < (n : Int) := by omega
          obtain ⟨v1, v4, v5, v7⟩ := H3.out
          obtain ⟨a, ha⟩ : ∃ a, P.2[i]? = some a := ⟨_, List.getElem?_eq_getElem (by rw [HL.out.2.1]; exact hlt)⟩
          obtain ⟨ob, oo, rfl, hol, _, q1⟩ := v4 i a ha
          obtain ⟨qb, qo, rfl, hql, _, q2⟩ := v7 i a ha
          have n1 := (v5.get 1 _ rfl).1
          have hnl2 := v5.lt
          clear v1 v4 v5 v7 ha
          go_wp2_with fail
          go_roundw
          case rel => exact ⟨i + 1, by go_num, by omega, trivial⟩
          case measure => simp [intOf]; omega
        · have hd5 : decide ((i : Int) < (n : Int)) = false := decide_eq_false (by omega)
          have hd6 : decide (i < n) = false := decide_eq_false (by omega)
          have HF := hidq H3.out.1
          go_wp2_with fail
          go_ret
          exact ⟨rfl, HF.out⟩

theorem wirePlans_any (p : Int) (w : World) : Calls Try.prog 3 #[.int .i64 p] w fun e w' => e = .returned (.bool true) ∧ Below w.heap.size w w' := by
  rcases legal4_cases p with h | ⟨_, d, hd, rfl⟩
  · exact wirePlans_no p w h
  · exact wirePlans_yes d hd w
end Go.Proofs.Ytgkcbihpojkfaaa
