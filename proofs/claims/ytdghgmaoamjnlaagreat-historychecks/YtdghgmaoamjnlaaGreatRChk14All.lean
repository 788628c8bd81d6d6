/-
  Layer 14: the answers that the document fixes.
  Layer 14: calls out of raw ones: contract.
  Layer 14: may calls have been written down, by the last call of each thread, and by all ahead.
  Layer 14's laws: calls told to the document's; one ahead of another one, by the document.
  Layer 14's laws: may calls have been written down, by the document: contract.
-/
import Derived.Test.YtdghgmaoamjnlaaGreatOp6All
import Derived.Test.YtdghgmaoamjnlaaGreatTailAll
import Derived.Test.YtdghgmaoamjnlaaGreatTallyStep7All
import Derived.Test.YtdghgmaoamjnlaaGreatEqPtr
import Derived.BigFrame
import Derived.StillTailTactics
import Derived.Test.YtdghgmaoamjnlaaGreatWireAAll
import Derived.Test.YtdghgmaoamjnlaaGreatKNew9All
namespace Go.Proofs.YtdghgmaoamjnlaaGreat
open Go.RowKit Go.Sort

theorem busy1 (fb : Nat) : busyTo (qset (fun _ => none) 0 (some fb)) 6 = [0] := by simp [busyTo, List.range_succ, qset]
/-- The two steps of the answers that the document fixes. -/
theorem first14 : ∃ F1, tStep 1 Mem.empty (Fr.of 5 0 1 0 0) = (Mem.empty, F1, Ans.zero, false) ∧ F1.kind = 5 ∧ ∃ M2 F2, tStep 1 Mem.empty F1 = (M2, F2, ⟨true, 0, 0, 0⟩, true) := ⟨_, rfl, rfl, _, _, rfl⟩
theorem frAt_new14 {w : World} {fb : Nat} {F : Fr} (h : BoxAt w fb (F.l none 0 none 0)) (h0 : F.c0.L = []) (h1 : F.c1.L = []) : FrAt w fb (fun k => k = fb) F :=
  ⟨rfl, fun k e => by rw [e]; exact h.lt, none, 0, none, 0, h, by rw [h0]; exact SlAt.nil _ _, by rw [h1]; exact SlAt.nil _ _, (fun j hj => by obtain ⟨y, hy, _⟩ := hj; cases hy), (fun j hj => by obtain ⟨y, hy, _⟩ := hj; cases hy)⟩

/-- Appending where a guard says yes. -/
theorem wpList_slW {P : Program} {k : Nat} {T E : TypeId} (hp : PlainK P k T E) (w : World) {ops : Array Oper} {rest : List Oper} {o : Oper} {a : Act} {Q : Exit → Act → World → Prop}
    (hw : Region.wanted o (yielded ops a.tmps) = true) (s x : Operand) (hop : o.op = Op.call { callee := Callee.builtin Builtin.append, args := #[s, x], argTypes := #[T, T] })
    (b : Option Addr) (cap n : Nat) (l : List Value) (hs : a.eval s = .slice b n cap) (hF : SlAt k w b cap n l) (xv : Value) (hx : a.eval x = xv) (m : Nat) (ys : List Value)
    (hsrc : Src P k T xv m ys w) (hm : 0 < m) (hb : n + m ≤ 1099511627776)
    (hK : ∀ g' cap' w', Flat k w' g' cap' (n + m) (l ++ ys) → But (inB b) w w' → (inB b g' ∨ w.heap.size ≤ g') → wpList P ops Q rest (a.put o.dst (.slice (some ⟨g', 0, none⟩) (n + m) cap')) w') : wpList P ops Q (o :: rest) a w := by
  refine wpList_step fun K hK' => ?_
  rw [if_pos hw]
  obtain ⟨g', cap', w', hrun, r1, r2, r3⟩ := sl_append hp o.type w b cap n l hF xv m ys hsrc hm hb
  unfold Oper.wp
  simp [execOp, hop, resolve, invoke, builtin, hs, hx, hrun, Result.andThen]
  exact hK' _ _ (hK g' cap' w' r1 r2 r3)

set_option maxRecDepth 20000 in
set_option maxHeartbeats 8000000 in
theorem awake14_any (w : World) : Calls Tryz.prog 39 #[] w fun e w' => e = .returned (.bool true) ∧ Below w.heap.size w w' := by
  have hN := new13_any _ 3 1 0 (fun w => machine3_any 1 w) w
  have hsf := run_store_flt (P := Tryz.prog)
  have hpe := run_neq_engine
  go_enter Tryz.func39, Tryz.ntmps39
  go_wp2_with fail
  refine hN.mono ?_
  rintro e w1 ⟨hb1, _, hok⟩
  obtain ⟨T, v, eb, mb, L, wm, rfl, hmb, hL, hLe, hwm, hM, hE, ⟨rfl, hK⟩, _⟩ := hok rfl
  have hv := hK rfl
  subst hv
  have H1 := hidq (And.intro hb1 (And.intro hmb (And.intro (show mb < eb by omega) (And.intro hM hE))))
  clear hb1 hok hmb hL hLe hwm hM hE hK hN
  go_wp2_with fail
  refine (of14_any eb _).mono ?_
  rintro e w2 ⟨rfl, hR, hb2⟩
  obtain ⟨rb, hrb⟩ : ∃ rb, w1.heap.size = rb := ⟨_, rfl⟩
  rw [hrb] at hR ⊢
  obtain ⟨hb1, hmb, hme, hM, hE⟩ := H1.out
  have hE2 := hE.below hb2
  have hM2 := hM.below hb2
  have hrbe : ¬ RK rb none [] eb := by
    rintro (e | ⟨x, hx, _⟩ | ⟨p, hp, _⟩)
    · have := hE.lt; omega
    · cases hx
    · cases hp
  have hB := hidq (rbegin_any rb eb none 0 [] (fun _ => none) 3 1 217 (.agg #[.int .i64 1]) mb (fun _ => none) false 0 0 5 0 1 0 0 w2 hE2 hR hrbe (fun j hj e => e) (by decide))
  have r0 := (hR.box.get 0 _ rfl).1
  have hrl := hR.box.lt
  have H2 := hidq (And.intro hR (And.intro hE2 (And.intro hM2 (And.intro (hb1.trans (hb2.mono hb1.size)) (And.intro hmb (And.intro hme (And.intro hrb (And.intro hE.lt (show w.heap.size ≤ rb by have := hb1.size; omega)))))))))
  clear hR hE2 hM2 hrbe hb1 hmb hme hM hE hb2 H1 hrb
  go_wp2_with fail
  refine hB.out.mono ?_
  rintro e w3 ⟨rfl, _, hok⟩
  obtain ⟨_, _, _, fb, cb, a3, cap3, hfb, hcb, hfc, hfa, hF3, hE3, hR3, hain, hb3⟩ := hok (by decide)
  clear hB hok r0 hrl
  rw [show begE 3 false (fun _ => none) 0 5 1 = 0 by decide]
  rw [show ((0 : Int)).toNat = 0 from rfl] at hE3 hR3
  obtain ⟨hR, hE2, hM2, hlow, hmb, hme, hrb, hel, hwrb⟩ := H2.out
  have hnmb : ¬ (mb = eb ∨ RK rb none [] mb) := by
    rintro (e | e | ⟨x, hx, _⟩ | ⟨p, hp, _⟩)
    · omega
    · omega
    · cases hx
    · cases hp
  have hM3 := hM2.but hb3 (fun k hk e => hnmb (by have : k = mb := hk; subst this; exact e))
  have hCs : [] ++ [(cb, (⟨0, 5, 0, 1, 0, 0, 0, -1, Ans.zero⟩ : Cl))] = [(cb, ⟨0, 5, 0, 1, 0, 0, 0, -1, Ans.zero⟩)] := rfl
  rw [hCs] at hR3
  obtain ⟨C0, hC0⟩ : ∃ C0 : Cl, C0 = ⟨0, 5, 0, 1, 0, 0, 0, -1, Ans.zero⟩ := ⟨_, rfl⟩
  rw [← hC0] at hR3
  have HC0 := hidq hC0
  obtain ⟨Q, hQ⟩ : ∃ Q, qset (fun _ => none) 0 (some fb) = Q := ⟨_, rfl⟩
  obtain ⟨U, hU⟩ : ∃ U, qset (fun _ => none) 0 (some cb) = U := ⟨_, rfl⟩
  have hQ0 : Q 0 = some fb := by rw [← hQ]; rfl
  have hU0 : U 0 = some cb := by rw [← hU]; rfl
  have hQb : (busyTo Q 6)[(into 0 (busyTo Q 6).length).toNat]? = some 0 := by rw [← hQ, busy1]; rfl
  rw [hQ] at hE3
  rw [hU] at hR3
  have hFr := frAt_new14 hF3 rfl rfl
  obtain ⟨F1, hst1, hk1, M2, F2, hst2⟩ := first14
  have hs3 := hb3.size
  have hml := hM2.lt mb rfl
  have hn1 : ∀ k, RK rb a3 [(cb, C0)] k → ¬ (k = mb ∨ k = fb ∨ k = eb) := by
    have hme' : mb < w2.heap.size := hml
    have hel2 := hE2.lt
    have hrl2 := hR.box.lt
    rintro k (e | e | ⟨p, hp, e⟩)
    · subst e
      rintro (q | q | q)
      · exact hnmb (.inr (.inl q.symm))
      · omega
      · omega
    · rcases hain k e with ⟨x, hx, _⟩ | q
      · cases hx
      · rintro (s | s | s)
        · omega
        · subst s; exact hfa e
        · omega
    · rw [List.mem_singleton] at hp
      subst hp
      have e' : cb = k := e
      rintro (s | s | s) <;> omega
  have hP1 := fun W (hW : Below w3.heap.size w3 W) => pickT_any 1 eb 3 1 mb Q false 0 0 0 fb (fun k => k = mb) (fun k => k = fb) (tStep 1 Mem.empty (Fr.of 5 0 1 0 0)) W (hE3.below hW) hQb hQ0 (by decide)
    (fun k hk => by have := hM3.lt mb rfl; have := hF3.lt; have := hW.size; rcases hk with (e : k = mb) | (e : k = fb) <;> omega) (fun e => by have := hE2.lt; rcases e with (e : eb = mb) | (e : eb = fb) <;> omega) ⟨_, _, _, _, _, (hF3.below hW)⟩
    (fun W' hW' => tstep_is 1 (by decide) W' mb fb (fun k => k = mb) (fun k => k = fb) Mem.empty (Fr.of 5 0 1 0 0) ((hM3.below hW).below hW') ((hFr.below hW).below hW') (fun k hk e => by have : k = mb := hk; have : k = fb := e; omega) (.inl rfl) (by decide))
  have hRP1 := hidq (rpick_any rb eb a3 cap3 [(cb, C0)] U 3 1 217 (.agg #[.int .i64 1]) mb Q false 0 0 0 fb (fun k => k = mb) (fun k => k = fb) (tStep 1 Mem.empty (Fr.of 5 0 1 0 0)) 0 cb C0 w3 (by decide) (by decide)
    (fun k hk => by have := hM3.lt mb rfl; have := hF3.lt; rcases hk with (e : k = mb) | (e : k = fb) <;> omega) hE3.lt hR3 (fun k hk e => hn1 k hk (by rcases e with (e : k = mb) | (e : k = fb) | e; exact .inl e; exact .inr (.inl e); exact .inr (.inr e))) (fun e => by rw [hst1] at e; cases e) hP1)
  rw [hst1] at hRP1
  have hlow3 : Below w.heap.size w w3 := hlow.trans (hb3.below hlow.size (fun k e => by
    rcases e with e | e | ⟨x, hx, _⟩ | ⟨p, hp, _⟩
    · omega
    · omega
    · cases hx
    · cases hp))
  have hRlow : ∀ k, RK rb a3 [(cb, C0)] k → w.heap.size ≤ k := by
    have hz := hlow.size
    rintro k (e | e | ⟨p, hp, e⟩)
    · omega
    · rcases hain k e with ⟨x, hx, _⟩ | q
      · cases hx
      · omega
    · rw [List.mem_singleton] at hp
      subst hp
      have e' : cb = k := e
      omega
  have H3 := hidq (And.intro hlow3 (And.intro hQb (And.intro hQ0 (And.intro hU0 (And.intro hk1 (And.intro hst2 (And.intro hn1 (And.intro hmb (And.intro hme (And.intro hwrb (And.intro hfb (And.intro hcb (And.intro hE2.lt (And.intro hb3.size (And.intro hQ (And.intro hR3.lt hRlow))))))))))))))))
  clear hRlow hQ hU hQ0 hU0 hQb hFr hst1 hk1 hst2 hs3 hml hn1 hP1 hlow3 hR hE2 hM2 hlow hmb hme hrb hel hwrb hnmb hM3 hF3 hE3 hR3 hain hb3 H2 hfb hcb hfc hfa hC0 hCs
  go_wp2_with fail
  refine hRP1.out.mono ?_
  rintro e w4 ⟨rfl, hE4, hR4, O4, P4, hM4, hF4, hd4, hO4, hP4, hb4⟩
  dsimp only at hE4 hR4 hM4 hF4 ⊢
  rw [if_neg (by decide)] at hE4 hR4
  unfold csAfter at hR4
  rw [if_neg (by decide)] at hR4
  obtain ⟨hlow3, hQb, hQ0, hU0, hk1, hst2, hn1, hmb, hme, hwrb, hfb, hcb, hel2, hs23, hQ, hRlt, hRlow⟩ := H3.out
  have hs34 := hb4.size
  have hOeb : ¬ (O4 eb ∨ P4 eb) := fun e => by
    rcases e with e | e
    · rcases hO4 eb e with (q : eb = mb) | q <;> omega
    · rcases hP4 eb e with (q : eb = fb) | q <;> omega
  have hlt4 : ∀ k, O4 k ∨ P4 k → k < w4.heap.size := fun k hk => hk.elim (hM4.lt k) (hF4.lt k)
  have hn2 : ∀ k, RK rb a3 [(cb, C0)] k → ¬ (O4 k ∨ P4 k ∨ k = eb) := fun k hk e => by
    have h1 := hRlt k hk
    rcases e with e | e | e
    · rcases hO4 k e with (q : k = mb) | q
      · exact hn1 k hk (.inl q)
      · omega
    · rcases hP4 k e with (q : k = fb) | q
      · exact hn1 k hk (.inr (.inl q))
      · omega
    · exact hn1 k hk (.inr (.inr e))
  have hP2 := fun W (hW : Below w4.heap.size w4 W) => pickT_any 1 eb 3 1 mb Q false 1 0 0 fb O4 P4 (tStep 1 Mem.empty F1) W (hE4.below hW) hQb hQ0 (by decide)
    (fun k hk => Nat.lt_of_lt_of_le (hlt4 k hk) hW.size) hOeb (by obtain ⟨a0, k0, a1, k1, hB, _⟩ := (hF4.below hW).box; exact ⟨a0, k0, a1, k1, F1, hB⟩)
    (fun W' hW' => tstep_is 1 (by decide) W' mb fb O4 P4 Mem.empty F1 ((hM4.below hW).below hW') ((hF4.below hW).below hW') hd4 (.inl hk1) (by decide))
  have hRP2 := hidq (rpick_any rb eb a3 cap3 [(cb, C0)] U 3 1 217 (.agg #[.int .i64 1]) mb Q false 1 0 0 fb O4 P4 (tStep 1 Mem.empty F1) 0 cb C0 w4 (by decide) (by decide) hlt4 hE4.lt hR4 hn2 (fun e => ⟨rfl, hU0⟩) hP2)
  rw [hst2] at hRP2
  have hlow4 : Below w.heap.size w w4 := hlow3.trans (hb4.below hlow3.size (fun k e => by
    have := hlow3.size
    rcases e with (e : k = mb) | (e : k = fb) | e | e
    · omega
    · omega
    · omega
    · exact hRlow k e))
  have hlow45 : ∀ k, O4 k ∨ P4 k ∨ k = eb ∨ RK rb a3 [(cb, C0)] k → w.heap.size ≤ k := fun k e => by
    have := hlow3.size
    rcases e with e | e | e | e
    · rcases hO4 k e with (q : k = mb) | q <;> omega
    · rcases hP4 k e with (q : k = fb) | q <;> omega
    · omega
    · exact hRlow k e
  have H4 := hidq (And.intro hlow4 hlow45)
  clear hlow45 hRlow hlow3 hQb hQ0 hU0 hk1 hst2 hn1 hmb hme hwrb hfb hcb hel2 hs23 hQ hRlt hs34 hOeb hlt4 hn2 hP2 hlow4 hE4 hR4 hM4 hF4 hd4 hO4 hP4 hb4
  go_wp2_with fail
  refine hRP2.out.mono ?_
  rintro e w5 ⟨rfl, hE5, hR5, O5, P5, hM5, hF5, hd5, hO5, hP5, hb5⟩
  dsimp only at hR5 ⊢
  rw [if_pos rfl] at hR5
  unfold csAfter at hR5
  rw [if_pos rfl] at hR5
  obtain ⟨C1, hC1⟩ : ∃ C1 : Cl, ({ C0 with fin := ((1 : Nat) : Int), ans := ⟨true, 0, 0, 0⟩ } : Cl) = C1 := ⟨_, rfl⟩
  rw [hC1] at hR5
  have hR6 : RecAt w5 rb eb a3 cap3 [(cb, C1)] (qset U 0 none) := hR5
  have hCv : C1 = ⟨0, 5, 0, 1, 0, 0, 0, 1, ⟨true, 0, 0, 0⟩⟩ := by rw [← hC1, HC0.out]; rfl
  subst hCv
  have hCA := hidq (calls14_any rb eb a3 cap3 [(cb, ⟨0, 5, 0, 1, 0, 0, 0, 1, ⟨true, 0, 0, 0⟩⟩)] (qset U 0 none) w5 hR6 (by show 1 ≤ 1000; decide))
  have hlow5 : Below w.heap.size w w5 := H4.out.1.trans (hb5.below H4.out.1.size H4.out.2)
  have H5 := hidq hlow5
  clear hE5 hR5 hM5 hF5 hd5 hO5 hP5 hb5 hR6 hlow5 hRP1 hRP2 H3 H4 HC0
  go_wp2_with fail
  refine hCA.out.mono ?_
  rintro e w6 ⟨a6, cap6, rfl, hS6, hin6, hb6⟩
  have hS6' : SlAt 12 w6 a6 cap6 1 [.int .i64 0, .int .i64 5, .float .f64 0, .int .i64 1, .int .i64 0, .int .i64 0, .int .i64 0, .int .i64 1, .bool true, .float .f64 0, .int .i64 0, .int .i64 0] := hS6
  have hCA2 := fun a c w h => check14_any [⟨0, 5, 0, 1, 0, 0, 0, 1, ⟨true, 0, 0, 0⟩⟩, ⟨0, 5, 0, 1, 0, 0, 0, 1, ⟨true, 0, 0, 0⟩⟩] a c 2 w h rfl (by decide)
  rw [show hchk [⟨0, 5, 0, 1, 0, 0, 0, 1, ⟨true, 0, 0, 0⟩⟩, ⟨0, 5, 0, 1, 0, 0, 0, 1, ⟨true, 0, 0, 0⟩⟩] 0 (fun _ => none) = 14 by decide] at hCA2
  have HSL := hidq hS6'
  have HC2 := hidq hCA2
  obtain ⟨g, rfl, hgl, hg0⟩ := hS6'.cell (t := 0) (u := .int .i64 0) rfl
  obtain ⟨_, q1, _, hg1⟩ := hS6'.cell (t := 1) (u := .int .i64 5) rfl
  cases q1
  obtain ⟨_, q2, _, hg2⟩ := hS6'.cell (t := 2) (u := .float .f64 0) rfl
  cases q2
  obtain ⟨_, q3, _, hg3⟩ := hS6'.cell (t := 3) (u := .int .i64 1) rfl
  cases q3
  obtain ⟨_, q4, _, hg4⟩ := hS6'.cell (t := 4) (u := .int .i64 0) rfl
  cases q4
  obtain ⟨_, q5, _, hg5⟩ := hS6'.cell (t := 5) (u := .int .i64 0) rfl
  cases q5
  obtain ⟨_, q6, _, hg6⟩ := hS6'.cell (t := 6) (u := .int .i64 0) rfl
  cases q6
  obtain ⟨_, q7, _, hg7⟩ := hS6'.cell (t := 7) (u := .int .i64 1) rfl
  cases q7
  obtain ⟨_, q8, _, hg8⟩ := hS6'.cell (t := 8) (u := .bool true) rfl
  cases q8
  obtain ⟨_, q9, _, hg9⟩ := hS6'.cell (t := 9) (u := .float .f64 0) rfl
  cases q9
  obtain ⟨_, q10, _, hg10⟩ := hS6'.cell (t := 10) (u := .int .i64 0) rfl
  cases q10
  obtain ⟨_, q11, _, hg11⟩ := hS6'.cell (t := 11) (u := .int .i64 0) rfl
  cases q11
  have HGW := hidq (show ∀ k, inB (some ⟨g, 0, none⟩) k → w.heap.size ≤ k from fun k hk => by have h1 := hin6 k hk; have h2 := H5.out.size; omega)
  have hcl6 : 1 ≤ cap6 := hS6'.le
  have H6 := hidq (H5.out.trans (hb6.mono H5.out.size))
  clear hS6 hS6' hin6 hb6 hCA2 H5
  go_wp2_with (at_builtin; (refine wpList_slW plainCl _ rfl (.tmp 58) (.tmp 62) rfl (some ⟨g, 0, none⟩) cap6 1 [.int .i64 0, .int .i64 5, .float .f64 0, .int .i64 1, .int .i64 0, .int .i64 0, .int .i64 0, .int .i64 1, .bool true, .float .f64 0, .int .i64 0, .int .i64 0] rfl (HSL.out.below ((Below.refl _ _).alloc (Nat.le_refl _) _)) _ rfl 1 [.int .i64 0, .int .i64 5, .float .f64 0, .int .i64 1, .int .i64 0, .int .i64 0, .int .i64 0, .int .i64 1, .bool true, .float .f64 0, .int .i64 0, .int .i64 0] (src_new 12 _ Tryz.underlying39 w6.heap.size [.int .i64 0, .int .i64 5, .float .f64 0, .int .i64 1, .int .i64 0, .int .i64 0, .int .i64 0, .int .i64 1, .bool true, .float .f64 0, .int .i64 0, .int .i64 0] rfl (fun j u hu => by rw [World.cell?_alloc_new, List.getElem?_toArray]; exact hu) (cl_one ⟨0, 5, 0, 1, 0, 0, 0, 1, ⟨true, 0, 0, 0⟩⟩)) (by omega) (by decide) ?_); intro g2 c2 w7 hF2 hb2 hg2)
  have hSZ : SlAt 12 w7 (some ⟨g2, 0, none⟩) c2 2 (flatCl [⟨0, 5, 0, 1, 0, 0, 0, 1, ⟨true, 0, 0, 0⟩⟩, ⟨0, 5, 0, 1, 0, 0, 0, 1, ⟨true, 0, 0, 0⟩⟩]) := .inr ⟨g2, rfl, hF2⟩
  have hgw : ∀ k, inB (some ⟨g, 0, none⟩) k → w.heap.size ≤ k := HGW.out
  have h7 : Below w.heap.size w w7 := (H6.out.alloc H6.out.size _).trans (hb2.below (by have := H6.out.size; simp; omega) hgw)
  have H7 := hidq h7
  refine (HC2.out _ _ _ hSZ).mono ?_
  clear hSZ hgw h7 hF2 hb2 HC2 HSL H6
  rintro e w8 ⟨rfl, hb8⟩
  have H8 := hidq (H7.out.trans (hb8.mono H7.out.size))
  clear hb8 H7
  go_wp2_with fail
  go_ret
  exact ⟨rfl, H8.out⟩
end Go.Proofs.YtdghgmaoamjnlaaGreat

namespace Go.Proofs.YtdghgmaoamjnlaaGreat
open Go.RowKit Go.Sort

/-- Raw calls in a row: thread, begin, end. -/
def RawIn (w : World) (a : Option Addr) (n : Nat) (R : Nat → Int × Int × Int) : Prop :=
  ∀ i, i < n → ∃ b off, a = some ⟨b, off, none⟩ ∧ b < w.heap.size ∧ w.cell? ⟨b, off + i * 3, none⟩ = some (.int .i64 (R i).1) ∧ w.cell? ⟨b, off + i * 3 + 1, none⟩ = some (.int .i64 (R i).2.1) ∧ w.cell? ⟨b, off + i * 3 + 2, none⟩ = some (.int .i64 (R i).2.2)
theorem RawIn.below {w w' : World} {a : Option Addr} {n : Nat} {R : Nat → Int × Int × Int} (h : RawIn w a n R) (hb : Below w.heap.size w w') : RawIn w' a n R := fun i hi => by
  obtain ⟨b, off, h1, h2, h3, h4, h5⟩ := h i hi
  exact ⟨b, off, h1, Nat.lt_of_lt_of_le h2 hb.size, by rw [hb.cell (p := ⟨b, off + i * 3, none⟩) h2]; exact h3, by rw [hb.cell (p := ⟨b, off + i * 3 + 1, none⟩) h2]; exact h4, by rw [hb.cell (p := ⟨b, off + i * 3 + 2, none⟩) h2]; exact h5⟩
def mkCl (r : Int × Int × Int) : Cl := ⟨r.1, 0, 0, 0, 0, 0, r.2.1, r.2.2, Ans.zero⟩
def mkCls (R : Nat → Int × Int × Int) (k : Nat) : List Cl := (List.range k).map (fun i => mkCl (R i))
theorem mkCls_len (R : Nat → Int × Int × Int) (k : Nat) : (mkCls R k).length = k := by simp [mkCls]
theorem mkCls_succ (R : Nat → Int × Int × Int) (k : Nat) : mkCls R (k + 1) = mkCls R k ++ [mkCl (R k)] := by simp [mkCls, List.range_succ]

set_option maxRecDepth 20000 in
set_option maxHeartbeats 4000000 in
theorem mcalls_any (a : Option Addr) (cap n m : Nat) (R : Nat → Int × Int × Int) (w : World) (h : RawIn w a n R) (hm : m = min n 20) :
    Calls Tryz.prog 40 #[.slice a n cap] w (CallsEnd (mkCls R m) w) := by
  have HH := hidq h
  have HM := hidq hm
  clear h
  go_enter Tryz.func40, Tryz.ntmps40
  go_wp2_with fail
  have hm20 : m ≤ 20 := by omega
  go_loopw [3, 4] (fun s3 s4 wr => ∃ (k : Nat) (a2 : Option Addr) (cap2 : Nat), s3 = .slice a2 k cap2 ∧ s4 = .int .i64 (k : Int) ∧ k ≤ m ∧ Hid (SlAt 12 wr a2 cap2 k (flatCl (mkCls R k)) ∧ (∀ j, inB a2 j → w.heap.size ≤ j) ∧ Below w.heap.size w wr)) (fun _ s4 _ => m - (intOf s4).toNat)
  case atStart =>
    refine ⟨0, some ⟨w.heap.size, 0, none⟩, 0, rfl, rfl, by omega, .inr ⟨w.heap.size, rfl, ?_⟩, ?_, (Below.refl _ _).alloc (Nat.le_refl _) _⟩
    · exact Flat.new w [] _ 12 0 rfl (Nat.zero_le _) (fun u hu => by cases hu)
    · rintro j ⟨x, hx, rfl⟩
      cases hx
      exact Nat.le_refl _
  case round =>
    obtain ⟨k, a2, cap2, rfl, rfl, hk, hX⟩ := hrel
    by_cases hlt : k < m
    · have hm := HM.out
      have hkn : k < n := by omega
      have hkI : (k : Int) < (n : Int) := by omega
      have h20 : k < 20 := by omega
      have h20I : (k : Int) < 20 := by omega
      obtain ⟨b, off, rfl, hbl, c0, c1, c2⟩ := (HH.out.below hX.out.2.2) k hkn
      have HSL := hidq hX.out.1
      obtain ⟨t0, ht0⟩ : ∃ t0, (R k).1 = t0 := ⟨_, rfl⟩
      obtain ⟨t1, ht1⟩ : ∃ t1, (R k).2.1 = t1 := ⟨_, rfl⟩
      obtain ⟨t2, ht2⟩ : ∃ t2, (R k).2.2 = t2 := ⟨_, rfl⟩
      rw [ht0] at c0
      rw [ht1] at c1
      rw [ht2] at c2
      have HC := hidq (show mkCls R (k + 1) = mkCls R k ++ [⟨t0, 0, 0, 0, 0, 0, t1, t2, Ans.zero⟩] from by rw [mkCls_succ]; unfold mkCl; rw [ht0, ht1, ht2])
      clear ht0 ht1 ht2
      have hba : Below wr.heap.size wr ((wr.alloc (.cells #[.int .i64 t0, .int .i64 0, .float .f64 0, .int .i64 0, .int .i64 0, .int .i64 0, .int .i64 t1, .int .i64 t2, .bool false, .float .f64 0, .int .i64 0, .int .i64 0] 68)).drew) := ((Below.refl _ _).alloc (Nat.le_refl _) _).drew
      obtain ⟨g2, q2, w2, hrun, hF2, hb2, hg2⟩ := sl_append plainCl 39 ((wr.alloc (.cells #[.int .i64 t0, .int .i64 0, .float .f64 0, .int .i64 0, .int .i64 0, .int .i64 0, .int .i64 t1, .int .i64 t2, .bool false, .float .f64 0, .int .i64 0, .int .i64 0] 68)).drew) a2 cap2 k _ (HSL.out.below hba) (.slice (some ⟨wr.heap.size, 0, none⟩) 1 1) 1 [.int .i64 t0, .int .i64 0, .float .f64 0, .int .i64 0, .int .i64 0, .int .i64 0, .int .i64 t1, .int .i64 t2, .bool false, .float .f64 0, .int .i64 0, .int .i64 0]
        (src_new 12 _ Tryz.underlying39 wr.heap.size [.int .i64 t0, .int .i64 0, .float .f64 0, .int .i64 0, .int .i64 0, .int .i64 0, .int .i64 t1, .int .i64 t2, .bool false, .float .f64 0, .int .i64 0, .int .i64 0] rfl (fun j u hu => by rw [show ((wr.alloc (.cells #[.int .i64 t0, .int .i64 0, .float .f64 0, .int .i64 0, .int .i64 0, .int .i64 0, .int .i64 t1, .int .i64 t2, .bool false, .float .f64 0, .int .i64 0, .int .i64 0] 68)).drew).cell? ⟨wr.heap.size, j, none⟩ = (wr.alloc (.cells #[.int .i64 t0, .int .i64 0, .float .f64 0, .int .i64 0, .int .i64 0, .int .i64 0, .int .i64 t1, .int .i64 t2, .bool false, .float .f64 0, .int .i64 0, .int .i64 0] 68)).cell? ⟨wr.heap.size, j, none⟩ from rfl, World.cell?_alloc_new, List.getElem?_toArray]; exact hu) (cl_one ⟨t0, 0, 0, 0, 0, 0, t1, t2, Ans.zero⟩)) (by omega) (by omega)
      have HR : Hid (∀ _ : Unit, (Builtin.append_ #[39, 39] 39 #[.slice a2 k cap2, .slice (some ⟨wr.heap.size, 0, none⟩) 1 1]).run Tryz.prog ((wr.alloc (.cells #[.int .i64 t0, .int .i64 0, .float .f64 0, .int .i64 0, .int .i64 0, .int .i64 0, .int .i64 t1, .int .i64 t2, .bool false, .float .f64 0, .int .i64 0, .int .i64 0] 68)).drew) = .ok (.slice (some ⟨g2, 0, none⟩) (k + 1) q2) w2) := fun _ => hrun
      have HE := hidq (show SlAt 12 w2 (some ⟨g2, 0, none⟩) q2 (k + 1) (flatCl (mkCls R (k + 1))) ∧ (∀ j, inB (some ⟨g2, 0, none⟩) j → w.heap.size ≤ j) ∧ Below w.heap.size w w2 from by
        obtain ⟨h1, h2, h3⟩ := hX.out
        refine ⟨.inr ⟨g2, rfl, by rw [HC.out, flatCl_snoc]; exact hF2⟩, ?_, ?_⟩
        · rintro j ⟨x, hx, rfl⟩
          cases hx
          rcases hg2 with e | e
          · exact h2 _ e
          · have := h3.size; have h9 := hba.size; show w.heap.size ≤ g2; omega
        · exact (h3.trans (hba.mono h3.size)).trans (hb2.below (by have := h3.size; have := hba.size; omega) (fun j e => h2 j e)))
      clear hrun hF2 hb2 hg2 hba
      go_wp2_with fail
      go_region_law (refine step_append rfl (.tmp 16) (.tmp 33) 39 rfl _ _ (by simp [Act.eval]) (by simp [Act.eval]) _ _ (HR ()) ?_)
      all_goals go_wp2
      all_goals (refine ⟨⟨k + 1, some ⟨g2, 0, none⟩, q2, rfl, congrArg _ (by omega), by omega, HE.out⟩, by simp [intOf]; omega⟩)
    · have hkm : k = m := by omega
      have hm := HM.out
      have HE := hidq (show CallsEnd (mkCls R m) w (.returned (.slice a2 k cap2)) wr from by
        obtain ⟨h1, h2, h3⟩ := hX.out
        rw [hkm] at h1
        exact ⟨a2, cap2, by rw [hkm, mkCls_len], by rw [mkCls_len]; exact h1, h2, h3⟩)
      by_cases hkn : k < n
      · have h20 : decide ((k : Int) < 20) = false := decide_eq_false (by omega)
        have h20' : decide (k < 20) = false := decide_eq_false (by omega)
        have hkI : (k : Int) < (n : Int) := by omega
        clear hX hkm
        go_wp2_with fail
        go_ret
        exact HE.out
      · have hd1 : decide ((k : Int) < (n : Int)) = false := decide_eq_false (by omega)
        have hd2 : decide (k < n) = false := decide_eq_false hkn
        clear hX hkm
        go_wp2_with fail
        go_ret
        exact HE.out
end Go.Proofs.YtdghgmaoamjnlaaGreat

namespace Go.Proofs.YtdghgmaoamjnlaaGreat
open Go.RowKit Go.Sort

/-- What is known of those ahead of place i; b: the last one's begin; D: each thread's last one. -/
structure CkI (L : List Cl) (i : Nat) (b : Int) (D : Nat → Option Cl) : Prop where
  ok : ∀ (j : Nat) (c : Cl), j < i → L[j]? = some c → 0 ≤ c.beg ∧ c.beg ≤ b ∧ 0 ≤ c.thread ∧ c.thread < 6
  b0 : 0 ≤ b
  bl : ∀ c, 0 < i → L[i - 1]? = some c → c.beg = b
  bz : i = 0 → b = 0
  last : ∀ t, t < 6 → (D t = none ∧ ∀ (j : Nat) (c : Cl), j < i → L[j]? = some c → ¬ c.thread = (t : Int)) ∨
    ∃ (j : Nat) (d : Cl), j < i ∧ L[j]? = some d ∧ D t = some d ∧ d.thread = (t : Int) ∧ ∀ (j' : Nat) (c : Cl), j' < i → L[j']? = some c → c.thread = (t : Int) → j' = j ∨ (0 ≤ c.fin ∧ c.fin < d.beg)
theorem CkI.start (L : List Cl) : CkI L 0 0 (fun _ => none) :=
  ⟨fun _ _ h => absurd h (Nat.not_lt_zero _), Int.le_refl _, fun _ h => absurd h (Nat.lt_irrefl _), fun _ => rfl, fun _ _ => .inl ⟨rfl, fun _ _ h => absurd h (Nat.not_lt_zero _)⟩⟩
/-- What a call ahead refuses. -/
def rbad (c d : Cl) : Prop := (d.thread = c.thread ∧ ¬ (0 ≤ d.fin ∧ d.fin < c.beg)) ∨ (¬ c.fin = -1 ∧ d.fin = c.fin)
theorem folOk_false {c d : Cl} {t : Nat} : folOk c t (some d) = false ↔ (((t : Int) = c.thread ∧ ¬ (0 ≤ d.fin ∧ d.fin < c.beg)) ∨ (0 ≤ c.fin ∧ c.fin = d.fin)) := by
  unfold folOk Cl.ahead Cl.done
  simp only [Bool.not_eq_false', Bool.or_eq_true, Bool.and_eq_true, decide_eq_true_eq, Bool.not_eq_true', decide_eq_false_iff_not, beq_iff_eq]
section
variable {L : List Cl} {i : Nat} {b : Int} {D : Nat → Option Cl}
theorem CkI.folq (h : CkI L i b D) {c : Cl} (hb : b ≤ c.beg) (hf : -1 ≤ c.fin) (hg : 0 ≤ c.fin → c.beg ≤ c.fin) :
    fol c D = false ↔ ∃ (j : Nat) (d : Cl), j < i ∧ L[j]? = some d ∧ rbad c d := by
  constructor
  · intro hfal
    have : ∃ t, t < 6 ∧ folOk c t (D t) = false := by
      by_cases e : ∃ t, t < 6 ∧ folOk c t (D t) = false
      · exact e
      · exfalso
        have : fol c D = true := (fol_iff c D).2 (fun t ht => by
          cases hq : folOk c t (D t)
          · exact absurd ⟨t, ht, hq⟩ e
          · rfl)
        rw [hfal] at this; cases this
    obtain ⟨t, ht6, hq⟩ := this
    rcases h.last t ht6 with ⟨e, _⟩ | ⟨j, d, hj, hd, hD, hdt, _⟩
    · rw [e] at hq; cases hq
    · rw [hD, folOk_false] at hq
      refine ⟨j, d, hj, hd, ?_⟩
      rcases hq with ⟨e1, e2⟩ | ⟨e1, e2⟩
      · exact .inl ⟨by omega, e2⟩
      · exact .inr ⟨by omega, by omega⟩
  · rintro ⟨j, d, hj, hd, hr⟩
    obtain ⟨o1, o2, o3, o4⟩ := h.ok j d hj hd
    obtain ⟨t, htd⟩ : ∃ t : Nat, d.thread = (t : Int) := ⟨d.thread.toNat, by omega⟩
    have ht6 : t < 6 := by omega
    refine fol_no ht6 ?_
    rcases h.last t ht6 with ⟨_, e⟩ | ⟨j2, d2, hj2, hd2, hD, hdt, hall⟩
    · exact absurd htd (e j d hj hd)
    · obtain ⟨p1, p2, _, _⟩ := h.ok j2 d2 hj2 hd2
      rw [hD, folOk_false]
      rcases hall j d hj hd htd with e | ⟨e1, e2⟩
      · subst e
        rw [hd2] at hd
        cases hd
        rcases hr with ⟨r1, r2⟩ | ⟨r1, r2⟩
        · exact .inl ⟨by omega, r2⟩
        · exact .inr ⟨by omega, by omega⟩
      · exfalso
        rcases hr with ⟨r1, r2⟩ | ⟨r1, r2⟩
        · exact r2 ⟨e1, by omega⟩
        · have := hg (by omega)
          omega
theorem CkI.next (h : CkI L i b D) {c : Cl} (hc : L[i]? = some c) (hs : hstep b D c = 0) : CkI L (i + 1) c.beg (dset D c) := by
  have ht : 0 ≤ c.thread ∧ c.thread < 6 := by
    by_cases e : 0 ≤ c.thread ∧ c.thread < 6
    · exact e
    · rw [hstep4 e] at hs; cases hs
  have hn : ¬ (c.beg < b ∨ c.fin < -1 ∨ (0 ≤ c.fin ∧ c.fin < c.beg) ∨ fol c D = false) := fun e => by
    rw [hstep14 ht e] at hs; cases hs
  have h1 : ¬ c.beg < b := fun e => hn (.inl e)
  have h4 : ¬ fol c D = false := fun e => hn (.inr (.inr (.inr e)))
  have hft : fol c D = true := by
    cases e : fol c D
    · exact absurd e h4
    · rfl
  have hcase : ∀ {j : Nat} {d : Cl}, j < i + 1 → L[j]? = some d → (j < i ∧ L[j]? = some d) ∨ (j = i ∧ d = c) := fun {j d} hj hd => by
    by_cases e : j < i
    · exact .inl ⟨e, hd⟩
    · have : j = i := by omega
      subst this
      rw [hc] at hd; cases hd
      exact .inr ⟨rfl, rfl⟩
  have hb0 := h.b0
  refine ⟨fun j d hj hd => ?_, by omega, fun d _ hd => ?_, fun e => absurd e (by omega), fun t ht6 => ?_⟩
  · rcases hcase hj hd with ⟨e1, e2⟩ | ⟨_, rfl⟩
    · obtain ⟨o1, o2, o3, o4⟩ := h.ok j d e1 e2
      exact ⟨o1, by omega, o3, o4⟩
    · exact ⟨by omega, Int.le_refl _, ht.1, ht.2⟩
  · rw [show i + 1 - 1 = i by omega, hc] at hd
    cases hd; rfl
  · by_cases e : (t : Int) = c.thread
    · refine .inr ⟨i, c, Nat.lt_succ_self i, hc, by unfold dset; rw [if_pos e], e.symm, fun j' d hj' hd hdt => ?_⟩
      rcases hcase hj' hd with ⟨e1, e2⟩ | ⟨e1, _⟩
      · refine .inr ?_
        rcases h.last t ht6 with ⟨_, q⟩ | ⟨j2, d2, hj2, hd2, hD, hdt2, hall⟩
        · exact absurd hdt (q j' d e1 e2)
        · have hok := (fol_iff c D).1 hft t ht6
          rw [hD] at hok
          have hnok : ¬ folOk c t (some d2) = false := fun q => by rw [q] at hok; cases hok
          rw [folOk_false] at hnok
          have hah : 0 ≤ d2.fin ∧ d2.fin < c.beg := by
            by_cases q : 0 ≤ d2.fin ∧ d2.fin < c.beg
            · exact q
            · exact absurd (.inl ⟨e, q⟩) hnok
          rcases hall j' d e1 e2 hdt with q | ⟨q1, q2⟩
          · subst q
            rw [hd2] at e2; cases e2
            exact hah
          · have := (h.ok j2 d2 hj2 hd2).2.1
            exact ⟨q1, by omega⟩
      · exact .inl e1
    · rcases h.last t ht6 with ⟨q1, q2⟩ | ⟨j2, d2, hj2, hd2, hD, hdt2, hall⟩
      · refine .inl ⟨by unfold dset; rw [if_neg e]; exact q1, fun j d hj hd => ?_⟩
        rcases hcase hj hd with ⟨e1, e2⟩ | ⟨_, rfl⟩
        · exact q2 j d e1 e2
        · exact fun q => e q.symm
      · refine .inr ⟨j2, d2, by omega, hd2, by unfold dset; rw [if_neg e]; exact hD, hdt2, fun j' d hj' hd hdt => ?_⟩
        rcases hcase hj' hd with ⟨e1, e2⟩ | ⟨_, rfl⟩
        · exact hall j' d e1 e2 hdt
        · exact absurd hdt.symm e
end
end Go.Proofs.YtdghgmaoamjnlaaGreat

namespace Go.Proofs.YtdghgmaoamjnlaaGreat
open Go.RowKit Go.Sort

abbrev rrow (c : Cl) : List Value := [.int .i64 c.thread, .int .i64 c.beg, .int .i64 c.fin]
abbrev rrv (c : Cl) : Value := .agg #[.int .i64 c.thread, .int .i64 c.beg, .int .i64 c.fin]
def flat14 (L : List Cl) : List Value := L.flatMap rrow
theorem flat14_snoc (L : List Cl) (c : Cl) : flat14 (L ++ [c]) = flat14 L ++ rrow c := by simp [flat14]
theorem flat14_get : ∀ (L : List Cl) (i k : Nat) (c : Cl), L[i]? = some c → k < 3 → (flat14 L)[i * 3 + k]? = (rrow c)[k]?
  | [], i, k, c, h, _ => by simp at h
  | d :: L, 0, k, c, h, hk => by
    simp only [List.getElem?_cons_zero, Option.some.injEq] at h
    subst h
    show (rrow d ++ flat14 L)[0 * 3 + k]? = _
    rw [List.getElem?_append_left (by show 0 * 3 + k < 3; omega), Nat.zero_mul, Nat.zero_add]
  | d :: L, i + 1, k, c, h, hk => by
    rw [List.getElem?_cons_succ] at h
    show (rrow d ++ flat14 L)[(i + 1) * 3 + k]? = _
    rw [List.getElem?_append_right (by show 3 ≤ (i + 1) * 3 + k; omega)]
    show (flat14 L)[(i + 1) * 3 + k - 3]? = _
    rw [show (i + 1) * 3 + k - 3 = i * 3 + k by omega]
    exact flat14_get L i k c h hk
theorem plainR14 : PlainK Tryz.prog 3 61 81 := by
  have h : (Tryz.prog.info? 81).map (fun i => (i.zero, i.size, i.bytes)) = some (some (.agg #[.int .i64 0, .int .i64 0, .int .i64 0]), 3, 24) := by kernel_rfl
  obtain ⟨i, hi, he⟩ := Option.map_eq_some_iff.1 h
  simp only [Prod.mk.injEq] at he
  exact ⟨i, _, Tryz.underlying61, hi, he.1, he.2.1, rfl, by rw [he.2.2]; decide⟩

set_option maxRecDepth 20000 in
set_option maxHeartbeats 2000000 in
theorem rahead_ints (t1 g1 f1 t2 g2 f2 : Int) (w : World) : Calls Tryz.prog 46 #[.agg #[.int .i64 t1, .int .i64 g1, .int .i64 f1], .agg #[.int .i64 t2, .int .i64 g2, .int .i64 f2]] w fun e w' => e = .returned (.bool (decide (0 ≤ f1 ∧ f1 < g2))) ∧ Below w.heap.size w w' := by
  obtain ⟨W, hW, hb, hs, h1, h2⟩ := two_new w [.int .i64 t1, .int .i64 g1, .int .i64 f1] [.int .i64 t2, .int .i64 g2, .int .i64 f2] 81 81 0
  obtain ⟨b, hbb⟩ : ∃ b, w.heap.size = b := ⟨_, rfl⟩
  have hW' : (w.alloc (.cells #[.int .i64 t1, .int .i64 g1, .int .i64 f1] 81)).alloc (.cells #[.int .i64 t2, .int .i64 g2, .int .i64 f2] 81) = W := hW
  rw [hbb] at h1 h2
  have hs0 : (w.alloc (.cells #[.int .i64 t1, .int .i64 g1, .int .i64 f1] 81)).heap.size = b + 1 := by simp [hbb]
  obtain ⟨a2, _⟩ := h1.get 2 _ rfl
  obtain ⟨b1, _⟩ := h2.get 1 _ rfl
  have hl1 := h1.lt
  have hl2 := h2.lt
  have HB := hidq hb
  obtain ⟨q, hq⟩ : ∃ q, decide (0 ≤ f1 ∧ f1 < g2) = q := ⟨_, rfl⟩
  have HQ := hidq hq
  rw [hq]
  clear hW h1 h2 hb hs hq
  by_cases e1 : f1 = -1
  · have HE := hidq (show q = false from by rw [← HQ.out]; exact decide_eq_false (by omega))
    subst e1
    clear HQ
    go_enter Tryz.func46, Tryz.ntmps46
    go_wp2_with fail
    go_ret
    exact ⟨by rw [HE.out]; rfl, by first | exact HB.out | (rw [← hbb]; exact HB.out)⟩
  · have n1 : (f1 == -1) = false := by simpa using e1
    have n2 : (f1 != -1) = true := by simpa using e1
    by_cases e2 : 0 ≤ f1
    · by_cases e3 : f1 < g2
      · have HE := hidq (show q = true from by rw [← HQ.out]; exact decide_eq_true ⟨e2, e3⟩)
        have d2 : decide (0 ≤ f1) = true := decide_eq_true e2
        have d3 : decide (f1 < g2) = true := decide_eq_true e3
        clear HQ
        go_enter Tryz.func46, Tryz.ntmps46
        go_wp2_with fail
        go_ret
        exact ⟨by rw [HE.out]; rfl, by first | exact HB.out | (rw [← hbb]; exact HB.out)⟩
      · have HE := hidq (show q = false from by rw [← HQ.out]; exact decide_eq_false (fun e => e3 e.2))
        have d2 : decide (0 ≤ f1) = true := decide_eq_true e2
        have d3 : decide (f1 < g2) = false := decide_eq_false e3
        clear HQ
        go_enter Tryz.func46, Tryz.ntmps46
        go_wp2_with fail
        go_ret
        exact ⟨by rw [HE.out]; rfl, by first | exact HB.out | (rw [← hbb]; exact HB.out)⟩
    · have HE := hidq (show q = false from by rw [← HQ.out]; exact decide_eq_false (fun e => e2 e.1))
      have d2 : decide (0 ≤ f1) = false := decide_eq_false e2
      clear HQ
      go_enter Tryz.func46, Tryz.ntmps46
      go_wp2_with fail
      go_ret
      exact ⟨by rw [HE.out]; rfl, by first | exact HB.out | (rw [← hbb]; exact HB.out)⟩
theorem rahead14_any (c d : Cl) (w : World) : Calls Tryz.prog 46 #[rrv c, rrv d] w fun e w' => e = .returned (.bool (c.ahead d)) ∧ Below w.heap.size w w' := rahead_ints c.thread c.beg c.fin d.thread d.beg d.fin w

/-- How Told ends. -/
def ToldEnd14 (L : List Cl) (n : Nat) (w : World) (e : Ending) (w' : World) : Prop :=
  ∃ (a2 : Option Addr) (cap2 : Nat), e = .returned (.slice a2 n cap2) ∧ SlAt 3 w' a2 cap2 n (flat14 L) ∧ Below w.heap.size w w'
set_option maxRecDepth 20000 in
set_option maxHeartbeats 8000000 in
theorem told14_any (L : List Cl) (a : Option Addr) (cap n : Nat) (w : World) (h : SlAt 12 w a cap n (flatCl L)) (hn : L.length = n) (hn20 : n ≤ 1000) :
    Calls Tryz.prog 41 #[.slice a n cap] w (ToldEnd14 L n w) := by
  have hsf := run_store_flt (P := Tryz.prog)
  have hcap := h.le
  have HH := hidq (And.intro h hn)
  clear h hn
  go_enter Tryz.func41, Tryz.ntmps41
  go_wp2_with fail
  go_loopw [3, 9] (fun s3 s9 wr => ∃ (i : Nat) (a2 : Option Addr) (cap2 : Nat), s3 = .slice a2 i cap2 ∧ s9 = .int .i64 (i : Int) ∧ i ≤ n ∧ Hid (SlAt 3 wr a2 cap2 i (flat14 (L.take i)) ∧ (∀ j, inB a2 j → w.heap.size ≤ j) ∧ Below w.heap.size w wr)) (fun _ s9 _ => n - (intOf s9).toNat)
  case atStart =>
    refine ⟨0, some ⟨w.heap.size, 0, none⟩, 0, rfl, rfl, Nat.zero_le _, hidq ⟨.inr ⟨w.heap.size, rfl, Flat.new w [] _ 3 0 rfl (Nat.zero_le _) (fun u hu => by cases hu)⟩, ?_, (Below.refl _ _).alloc (Nat.le_refl _) _⟩⟩
    rintro j ⟨x, hx, rfl⟩
    cases hx
    exact Nat.le_refl _
  case round =>
    obtain ⟨i, a2, cap2, rfl, rfl, hi, hX⟩ := hrel
    by_cases hlt : i < n
    · have hltI : (i : Int) < (n : Int) := by omega
      obtain ⟨h, hn⟩ := HH.out
      obtain ⟨z2, z4, hbw⟩ := hX.out
      obtain ⟨c, hc⟩ : ∃ c, L[i]? = some c := ⟨_, List.getElem?_eq_getElem (by omega)⟩
      have hcell : ∀ j u, c.l[j]? = some u → ∃ g, a = some ⟨g, 0, none⟩ ∧ g < w.heap.size ∧ w.cell? ⟨g, i * 12 + j, none⟩ = some u := fun j u hu => by
        have hj : j < 12 := (List.getElem?_eq_some_iff.1 hu).1
        obtain ⟨g, h1, h2, h3⟩ := h.cell (t := i * 12 + j) (u := u) (by rw [flatCl_get L i j c hc hj]; exact hu)
        exact ⟨g, h1, h2, h3⟩
      obtain ⟨g, rfl, hgl, _⟩ := hcell 0 _ rfl
      have hrr : ∀ j u, c.l[j]? = some u → wr.cell? ⟨g, i * 12 + j, none⟩ = some u := fun j u hu => by
        obtain ⟨g', h1, _, h3⟩ := hcell j u hu
        cases h1
        rw [hbw.cell (p := ⟨g, i * 12 + j, none⟩) hgl]; exact h3
      have m0 : wr.cell? ⟨g, i * 12, none⟩ = some (.int .i64 c.thread) := hrr 0 _ rfl
      have m1 := hrr 1 _ rfl
      have m2 := hrr 2 _ rfl
      have m3 := hrr 3 _ rfl
      have m4 := hrr 4 _ rfl
      have m5 := hrr 5 _ rfl
      have m6 := hrr 6 _ rfl
      have m7 := hrr 7 _ rfl
      have m8 := hrr 8 _ rfl
      have m9 := hrr 9 _ rfl
      have m10 := hrr 10 _ rfl
      have m11 := hrr 11 _ rfl
      have hgr : g < wr.heap.size := Nat.lt_of_lt_of_le hgl hbw.size
      obtain ⟨xb, hxb⟩ : ∃ xb, wr.heap.size = xb := ⟨_, rfl⟩
      obtain ⟨W1, hW1⟩ : ∃ W1, wr.alloc (.cells #[.int .i64 c.thread, .int .i64 c.kind, .float .f64 c.pri, .int .i64 c.val, .int .i64 c.d0, .int .i64 c.d1, .int .i64 c.beg, .int .i64 c.fin, .bool c.ans.ok, .float .f64 c.ans.pri, .int .i64 c.ans.val, .int .i64 c.ans.n] 68) = W1 := ⟨_, rfl⟩
      have hX1 := BoxAt.new wr c.l 68
      rw [show wr.alloc (.cells c.l.toArray 68) = W1 from hW1, hxb] at hX1
      have hb1 : Below wr.heap.size wr W1 := by rw [← hW1]; exact (Below.refl _ _).alloc (Nat.le_refl _) _
      have x0 := (hX1.get 0 _ rfl).1
      have x6 := (hX1.get 6 _ rfl).1
      have x7 := (hX1.get 7 _ rfl).1
      have hxl := hX1.lt
      have HSL := hidq (z2.below hb1)
      have HX4 := hidq (And.intro z4 (And.intro (hbw.trans (hb1.mono hbw.size)) hc))
      have hm12 : i + 1 ≤ 1099511627776 := by omega
      clear h hn z2 z4 hbw hc hcell hrr hb1 hX1 hX
      go_wp2_with (at_builtin; refine wpList_sl plainR14 _ rfl (.tmp 13) (.tmp 21) rfl a2 cap2 i (flat14 (L.take i)) rfl (HSL.out.below ((Below.refl _ _).alloc (Nat.le_refl _) _)) _ rfl 1 [.int .i64 c.thread, .int .i64 c.beg, .int .i64 c.fin] (src_new 3 _ Tryz.underlying61 W1.heap.size [.int .i64 c.thread, .int .i64 c.beg, .int .i64 c.fin] rfl (fun j u hu => by rw [World.cell?_alloc_new]; simpa using hu) (by intro u hu; simp at hu; rcases hu with rfl | rfl | rfl <;> rfl)) (by omega) hm12 ?_; intro g2 c2 w3 hF3 hb3 hg3; have HF3 := hidq hF3; have HB3 := hidq hb3; have HG3 := hidq hg3; clear hF3 hb3 hg3)
      have HE := hidq (show SlAt 3 w3 (some ⟨g2, 0, none⟩) c2 (i + 1) (flat14 (L.take (i + 1))) ∧ (∀ j, inB (some ⟨g2, 0, none⟩) j → w.heap.size ≤ j) ∧ Below w.heap.size w w3 from by
        obtain ⟨z4, hbw, hc⟩ := HX4.out
        have htk : L.take (i + 1) = L.take i ++ [c] := by
          obtain ⟨hl, he⟩ := List.getElem?_eq_some_iff.1 hc
          rw [List.take_add_one, hc]; rfl
        rw [htk, flat14_snoc]
        refine ⟨.inr ⟨g2, rfl, HF3.out⟩, ?_, ?_⟩
        · rintro j ⟨y, hy, rfl⟩
          cases hy
          rcases HG3.out with q | q
          · exact z4 _ q
          · have := hbw.size
            rw [World.size_alloc] at q
            show w.heap.size ≤ g2
            omega
        · exact (hbw.trans (((Below.refl _ _).alloc (Nat.le_refl _) _).mono hbw.size)).trans (HB3.out.below (by have := hbw.size; rw [World.size_alloc]; omega) (fun j hj => z4 j hj)))
      clear HX4 HSL HF3 HB3 HG3 m0 m1 m2 m3 m4 m5 m6 m7 m8 m9 m10 m11 x0 x6 x7 hW1 hxl hgr
      go_wp2_with fail
      go_roundw
      case rel => exact ⟨i + 1, some ⟨g2, 0, none⟩, c2, rfl, by go_num, by omega, HE⟩
      case measure => simp [intOf]; omega
    · have hin : i = n := by omega
      have hd1 : decide ((i : Int) < (n : Int)) = false := decide_eq_false (by omega)
      have hd2 : decide (i < n) = false := decide_eq_false hlt
      have HE := hidq (show ToldEnd14 L n w (.returned (.slice a2 i cap2)) wr from by
        obtain ⟨z2, z4, hbw⟩ := hX.out
        rw [List.take_of_length_le (by rw [HH.out.2]; omega)] at z2
        rw [hin] at z2 ⊢
        exact ⟨a2, cap2, rfl, z2, hbw⟩)
      clear hX hin
      go_wp2_with fail
      go_ret
      exact HE.out
end Go.Proofs.YtdghgmaoamjnlaaGreat

namespace Go.Proofs.YtdghgmaoamjnlaaGreat
open Go.RowKit Go.Sort

def rc13tR (g : Nat) (xb : Nat) (n : Nat) (cap : Nat) (j : Nat) (ct : Int) (cb : Int) (cf : Int) (dt : Int) (db : Int) (df : Int) (q : Bool) : List (Value → World → Prop) :=
  [fun v _ => v = .slice (some ⟨g, 0, none⟩) n cap,
   fun v _ => v = .int .i64 (j : Int),
   fun v _ => v = .pointer (some ⟨g, j * 3, none⟩),
   fun v _ => v = .pointer (some ⟨g, j * 3, none⟩),
   fun v _ => v = .int .i64 dt,
   fun v _ => v = .pointer (some ⟨xb, 0, none⟩),
   fun v _ => v = .int .i64 ct,
   fun v _ => v = .bool true,
   fun v _ => v = .bool true,
   fun v _ => v = .slice (some ⟨g, 0, none⟩) n cap,
   fun v _ => v = .int .i64 (j : Int),
   fun v _ => v = .pointer (some ⟨g, j * 3, none⟩),
   fun v _ => v = .agg #[.int .i64 dt, .int .i64 db, .int .i64 df],
   fun v _ => v = .agg #[.int .i64 ct, .int .i64 cb, .int .i64 cf],
   fun v _ => v = .bool q,
   fun v _ => v = .bool (!q),
   fun v _ => v = .bool (!q)]
theorem rc13tR_kept (g : Nat) (xb : Nat) (n : Nat) (cap : Nat) (j : Nat) (ct : Int) (cb : Int) (cf : Int) (dt : Int) (db : Int) (df : Int) (q : Bool) : Reg.AllKept Reg.Keeps (rc13tR g xb n cap j ct cb cf dt db df q) :=
  ⟨(fun _ _ _ _ h => h), (fun _ _ _ _ h => h), (fun _ _ _ _ h => h), (fun _ _ _ _ h => h), (fun _ _ _ _ h => h), (fun _ _ _ _ h => h), (fun _ _ _ _ h => h), (fun _ _ _ _ h => h), (fun _ _ _ _ h => h), (fun _ _ _ _ h => h), (fun _ _ _ _ h => h), (fun _ _ _ _ h => h), (fun _ _ _ _ h => h), (fun _ _ _ _ h => h), (fun _ _ _ _ h => h), (fun _ _ _ _ h => h), (fun _ _ _ _ h => h), trivial⟩
def rc13fR (g : Nat) (xb : Nat) (n : Nat) (cap : Nat) (j : Nat) (ct : Int) (dt : Int) : List (Value → World → Prop) :=
  [fun v _ => v = .slice (some ⟨g, 0, none⟩) n cap,
   fun v _ => v = .int .i64 (j : Int),
   fun v _ => v = .pointer (some ⟨g, j * 3, none⟩),
   fun v _ => v = .pointer (some ⟨g, j * 3, none⟩),
   fun v _ => v = .int .i64 dt,
   fun v _ => v = .pointer (some ⟨xb, 0, none⟩),
   fun v _ => v = .int .i64 ct,
   fun v _ => v = .bool false,
   fun v _ => v = .bool false,
   fun v _ => v = undef,
   fun v _ => v = undef,
   fun v _ => v = undef,
   fun v _ => v = undef,
   fun v _ => v = undef,
   fun v _ => v = undef,
   fun v _ => v = undef,
   fun v _ => v = .bool false]
theorem rc13fR_kept (g : Nat) (xb : Nat) (n : Nat) (cap : Nat) (j : Nat) (ct : Int) (dt : Int) : Reg.AllKept Reg.Keeps (rc13fR g xb n cap j ct dt) :=
  ⟨(fun _ _ _ _ h => h), (fun _ _ _ _ h => h), (fun _ _ _ _ h => h), (fun _ _ _ _ h => h), (fun _ _ _ _ h => h), (fun _ _ _ _ h => h), (fun _ _ _ _ h => h), (fun _ _ _ _ h => h), (fun _ _ _ _ h => h), (fun _ _ _ _ h => h), (fun _ _ _ _ h => h), (fun _ _ _ _ h => h), (fun _ _ _ _ h => h), (fun _ _ _ _ h => h), (fun _ _ _ _ h => h), (fun _ _ _ _ h => h), (fun _ _ _ _ h => h), trivial⟩
def rc15tR (g : Nat) (xb : Nat) (n : Nat) (cap : Nat) (j : Nat) (cf : Int) (df : Int) (q : Bool) : List (Value → World → Prop) :=
  [fun v _ => v = .pointer (some ⟨xb, 2, none⟩),
   fun v _ => v = .int .i64 cf,
   fun v _ => v = .bool true,
   fun v _ => v = .bool true,
   fun v _ => v = .slice (some ⟨g, 0, none⟩) n cap,
   fun v _ => v = .int .i64 (j : Int),
   fun v _ => v = .pointer (some ⟨g, j * 3, none⟩),
   fun v _ => v = .pointer (some ⟨g, j * 3 + 2, none⟩),
   fun v _ => v = .int .i64 df,
   fun v _ => v = .pointer (some ⟨xb, 2, none⟩),
   fun v _ => v = .int .i64 cf,
   fun v _ => v = .bool q,
   fun v _ => v = .bool q]
theorem rc15tR_kept (g : Nat) (xb : Nat) (n : Nat) (cap : Nat) (j : Nat) (cf : Int) (df : Int) (q : Bool) : Reg.AllKept Reg.Keeps (rc15tR g xb n cap j cf df q) :=
  ⟨(fun _ _ _ _ h => h), (fun _ _ _ _ h => h), (fun _ _ _ _ h => h), (fun _ _ _ _ h => h), (fun _ _ _ _ h => h), (fun _ _ _ _ h => h), (fun _ _ _ _ h => h), (fun _ _ _ _ h => h), (fun _ _ _ _ h => h), (fun _ _ _ _ h => h), (fun _ _ _ _ h => h), (fun _ _ _ _ h => h), (fun _ _ _ _ h => h), trivial⟩
def rc15fR (xb : Nat) (cf : Int) : List (Value → World → Prop) :=
  [fun v _ => v = .pointer (some ⟨xb, 2, none⟩),
   fun v _ => v = .int .i64 cf,
   fun v _ => v = .bool false,
   fun v _ => v = .bool false,
   fun v _ => v = undef,
   fun v _ => v = undef,
   fun v _ => v = undef,
   fun v _ => v = undef,
   fun v _ => v = undef,
   fun v _ => v = undef,
   fun v _ => v = undef,
   fun v _ => v = undef,
   fun v _ => v = .bool false]
theorem rc15fR_kept (xb : Nat) (cf : Int) : Reg.AllKept Reg.Keeps (rc15fR xb cf) :=
  ⟨(fun _ _ _ _ h => h), (fun _ _ _ _ h => h), (fun _ _ _ _ h => h), (fun _ _ _ _ h => h), (fun _ _ _ _ h => h), (fun _ _ _ _ h => h), (fun _ _ _ _ h => h), (fun _ _ _ _ h => h), (fun _ _ _ _ h => h), (fun _ _ _ _ h => h), (fun _ _ _ _ h => h), (fun _ _ _ _ h => h), (fun _ _ _ _ h => h), trivial⟩

set_option maxRecDepth 20000 in
set_option maxHeartbeats 8000000 in
theorem rcheck14_any (LC : List Cl) (a : Option Addr) (cap n : Nat) (w : World) (h : SlAt 3 w a cap n (flat14 LC)) (hn : LC.length = n) (hn1000 : n ≤ 1000) :
    Calls Tryz.prog 24 #[.slice a n cap] w fun e w' => e = .returned (.int .i64 (hchk LC 0 (fun _ => none))) ∧ Below w.heap.size w w' := by
  obtain ⟨res, hres⟩ : ∃ res, hchk LC 0 (fun _ => none) = res := ⟨_, rfl⟩
  rw [hres]
  have hcap := h.le
  have HH := hidq (And.intro h hn)
  have HR0 := hidq (show CkI LC 0 0 (fun _ => none) ∧ hchk (LC.drop 0) 0 (fun _ => none) = res ∧ Below w.heap.size w w from ⟨CkI.start LC, hres, Below.refl _ _⟩)
  clear h hn hres
  go_enter Tryz.func24, Tryz.ntmps24
  go_wp2_with fail
  go_loopw [8] (fun s8 wr => ∃ (i : Nat) (b : Int) (D : Nat → Option Cl), s8 = .int .i64 (i : Int) ∧ i ≤ n ∧ Hid (CkI LC i b D ∧ hchk (LC.drop i) b D = res ∧ Below w.heap.size w wr)) (fun s8 _ => n - (intOf s8).toNat)
  case atStart => exact ⟨0, 0, fun _ => none, rfl, Nat.zero_le _, HR0⟩
  case round =>
    obtain ⟨i, b, D, rfl, hi, hX⟩ := hrel
    clear HR0
    by_cases hlt : i < n
    case neg =>
      have hd1 : decide ((i : Int) < (n : Int)) = false := decide_eq_false (by omega)
      have hd2 : decide (i < n) = false := decide_eq_false hlt
      have HE := hidq (show res = 0 ∧ Below w.heap.size w wr from by
        obtain ⟨h1, h2, h3⟩ := hX.out
        rw [List.drop_of_length_le (by rw [HH.out.2]; omega)] at h2
        exact ⟨h2.symm, h3⟩)
      clear hX
      go_wp2_with fail
      go_ret
      exact ⟨by rw [HE.out.1]; rfl, HE.out.2⟩
    have hltI : (i : Int) < (n : Int) := by omega
    obtain ⟨h, hn⟩ := HH.out
    obtain ⟨hCk, hres, hbw⟩ := hX.out
    obtain ⟨c, hc⟩ : ∃ c, LC[i]? = some c := ⟨_, List.getElem?_eq_getElem (by omega)⟩
    have hdr : LC.drop i = c :: LC.drop (i + 1) := by
      obtain ⟨hl, he⟩ := List.getElem?_eq_some_iff.1 hc
      rw [List.drop_eq_getElem_cons hl, he]
    rw [hdr] at hres
    obtain ⟨g, rfl, hFl⟩ : ∃ g, a = some ⟨g, 0, none⟩ ∧ Flat 3 w g cap n (flat14 LC) := by
      rcases h with ⟨_, e, _⟩ | ⟨g, e1, e2⟩
      · exact absurd e (by omega)
      · exact ⟨g, e1, e2⟩
    have hgl := hFl.lt
    have hrow : ∀ (q j : Nat) (d : Cl) u, LC[q]? = some d → (rrow d)[j]? = some u → w.cell? ⟨g, q * 3 + j, none⟩ = some u := fun q j d u hd hu => by
      have hj : j < 3 := (List.getElem?_eq_some_iff.1 hu).1
      exact hFl.cell _ _ (by rw [flat14_get LC q j d hd hj]; exact hu)
    have HROW := hidq (And.intro hrow hgl)
    obtain ⟨ct, hct⟩ : ∃ ct, c.thread = ct := ⟨_, rfl⟩
    obtain ⟨cb, hcb⟩ : ∃ cb, c.beg = cb := ⟨_, rfl⟩
    obtain ⟨cf, hcf⟩ : ∃ cf, c.fin = cf := ⟨_, rfl⟩
    have hrr : ∀ j u, (rrow c)[j]? = some u → wr.cell? ⟨g, i * 3 + j, none⟩ = some u := fun j u hu => by
      rw [hbw.cell (p := ⟨g, i * 3 + j, none⟩) hgl]; exact hrow i j c u hc hu
    have m0 : wr.cell? ⟨g, i * 3, none⟩ = some (.int .i64 ct) := by rw [← hct]; exact hrr 0 _ rfl
    have m1 : wr.cell? ⟨g, i * 3 + 1, none⟩ = some (.int .i64 cb) := by rw [← hcb]; exact hrr 1 _ rfl
    have m2 : wr.cell? ⟨g, i * 3 + 2, none⟩ = some (.int .i64 cf) := by rw [← hcf]; exact hrr 2 _ rfl
    have hgr : g < wr.heap.size := Nat.lt_of_lt_of_le hgl hbw.size
    obtain ⟨xb, hxb⟩ : ∃ xb, wr.heap.size = xb := ⟨_, rfl⟩
    obtain ⟨W1, hW1⟩ : ∃ W1, wr.alloc (.cells #[.int .i64 ct, .int .i64 cb, .int .i64 cf] 81) = W1 := ⟨_, rfl⟩
    have hX1 := BoxAt.new wr [.int .i64 ct, .int .i64 cb, .int .i64 cf] 81
    rw [show wr.alloc (.cells [.int .i64 ct, .int .i64 cb, .int .i64 cf].toArray 81) = W1 from hW1, hxb] at hX1
    have hb1 : Below wr.heap.size wr W1 := by rw [← hW1]; exact (Below.refl _ _).alloc (Nat.le_refl _) _
    have hlow := hbw.trans (hb1.mono hbw.size)
    have x0 := (hX1.get 0 _ rfl).1
    have x1 := (hX1.get 1 _ rfl).1
    have x2 := (hX1.get 2 _ rfl).1
    have hxl := hX1.lt
    have HX1 := hidq hX1
    have HLOW := hidq hlow
    have HCK := hidq (And.intro hCk hc)
    have HSTOP := hidq (fun e (he : hstep b D c = e) (h0 : ¬ e = 0) => (show res = e from hres.symm.trans (hchk_stop he h0)))
    have HNEXT := hidq (fun (he : hstep b D c = 0) => (show hchk (LC.drop (i + 1)) c.beg (dset D c) = res from (hchk_on he).symm.trans hres))
    have HC := hidq (And.intro hct (And.intro hcb hcf))
    have hb0 := hCk.b0
    have HB0 := hidq hb0
    have hprev : 0 < i → ∃ p, LC[i - 1]? = some p ∧ p.beg = b ∧ wr.cell? ⟨g, (i - 1) * 3 + 1, none⟩ = some (.int .i64 b) := fun hi0 => by
      obtain ⟨p, hp⟩ : ∃ p, LC[i - 1]? = some p := ⟨_, List.getElem?_eq_getElem (by omega)⟩
      have hpb := hCk.bl p hi0 hp
      refine ⟨p, hp, hpb, ?_⟩
      rw [hbw.cell (p := ⟨g, (i - 1) * 3 + 1, none⟩) hgl, hrow (i - 1) 1 p _ hp rfl, hpb]
    have HPREV := hidq hprev
    have HBZ := hidq hCk.bz
    have HB1 := hidq hb1
    clear h hn hCk hres hbw hc hdr hFl hrow hrr hX1 hb1 hlow hct hcb hcf hb0 hprev hX
    by_cases ht0 : ct < 0
    · have HE := hidq (show res = 4 ∧ Below w.heap.size w W1 from ⟨HSTOP.out 4 (hstep4 (by rw [HC.out.1]; omega)) (by decide), HLOW.out⟩)
      clear HSTOP HNEXT
      go_wp2_with fail
      go_ret
      exact ⟨by rw [HE.out.1]; rfl, HE.out.2⟩
    by_cases ht5 : 5 < ct
    · have HE := hidq (show res = 4 ∧ Below w.heap.size w W1 from ⟨HSTOP.out 4 (hstep4 (by rw [HC.out.1]; omega)) (by decide), HLOW.out⟩)
      have d0 : decide (ct < 0) = false := decide_eq_false ht0
      clear HSTOP HNEXT
      go_wp2_with fail
      go_ret
      exact ⟨by rw [HE.out.1]; rfl, HE.out.2⟩
    have d0 : decide (ct < 0) = false := decide_eq_false ht0
    have d5 : decide (5 < ct) = false := decide_eq_false ht5
    have HT := hidq (show 0 ≤ c.thread ∧ c.thread < 6 from by rw [HC.out.1]; omega)
    clear ht0 ht5
    by_cases hb0 : cb < 0
    · have HE := hidq (show res = 14 ∧ Below w.heap.size w W1 from ⟨HSTOP.out 14 (hstep14 HT.out (.inl (by rw [HC.out.2.1]; have := HB0.out; omega))) (by decide), HLOW.out⟩)
      clear HSTOP HNEXT
      go_wp2_with fail
      go_ret
      exact ⟨by rw [HE.out.1]; rfl, HE.out.2⟩
    have e0 : decide (cb < 0) = false := decide_eq_false hb0
    by_cases hf1 : cf < -1
    · have HE := hidq (show res = 14 ∧ Below w.heap.size w W1 from ⟨HSTOP.out 14 (hstep14 HT.out (.inr (.inl (by rw [HC.out.2.2]; omega)))) (by decide), HLOW.out⟩)
      clear HSTOP HNEXT
      go_wp2_with fail
      go_ret
      exact ⟨by rw [HE.out.1]; rfl, HE.out.2⟩
    have e1 : decide (cf < -1) = false := decide_eq_false hf1
    by_cases hbf : ¬ cf = -1 ∧ cf < cb
    · obtain ⟨hf2, hf3⟩ := hbf
      have e2 : (cf == -1) = false := by simpa using hf2
      have e3 : (cf != -1) = true := by simpa using hf2
      have HE := hidq (show res = 14 ∧ Below w.heap.size w W1 from ⟨HSTOP.out 14 (hstep14 HT.out (.inr (.inr (.inl (by rw [HC.out.2.1, HC.out.2.2]; omega))))) (by decide), HLOW.out⟩)
      clear HSTOP HNEXT
      go_wp2_with fail
      go_ret
      exact ⟨by rw [HE.out.1]; rfl, HE.out.2⟩
    have HBF := hidq hbf
    have HF1 := hidq hf1
    have HB02 := hidq hb0
    have hfin : cf = -1 ∨ ¬ cf = -1 := by omega
    clear hbf hf1 hb0
    rcases hfin with e2 | e2
    focus
      have HF2 := hidq e2
      have e3 : (cf == -1) = true := by simpa using e2
      have e4 : (cf != -1) = false := by simpa using e2
      clear e2
      go_wp2_with fail
      clear e3 e4
    rotate_left
    focus
      have hq : ¬ cf < cb := fun q => HBF.out ⟨e2, q⟩
      have e3 : (cf == -1) = false := by simpa using e2
      have e4 : (cf != -1) = true := by simpa using e2
      have e5 : decide (cf < cb) = false := decide_eq_false hq
      have HF2 := hidq e2
      clear e2 hq
      go_wp2_with fail
      clear e3 e4 e5
    all_goals
      obtain ⟨w6, h6⟩ : ∃ w6, w6 = wr := ⟨_, rfl⟩
      subst h6
      by_cases hi0 : 0 < i
      rotate_left
      focus
        have hbz : b = 0 := HBZ.out (by omega)
        have HNB := hidq (show ¬ c.beg < b from by rw [HC.out.2.1, hbz]; have := HB02.out; omega)
        have g1 : decide ((0 : Int) < (i : Int)) = false := decide_eq_false (by omega)
        have g2 : decide (0 < i) = false := decide_eq_false hi0
        clear hbz hi0
        go_wp2_with fail
        go_region
        go_wp2_with fail
        clear g1 g2
      rotate_left
      focus
        obtain ⟨p, hp, hpb, hpc⟩ := HPREV.out hi0
        obtain ⟨k, hk⟩ : ∃ k, i - 1 = k := ⟨_, rfl⟩
        rw [hk] at hpc
        have hsub : (i : Int) - 1 = (k : Int) := by omega
        have hkn : k < n := by omega
        have hknI : (k : Int) < (n : Int) := by omega
        have hpc1 : W1.cell? ⟨g, k * 3 + 1, none⟩ = some (.int .i64 b) := by rw [HB1.out.cell (p := ⟨g, k * 3 + 1, none⟩) hgr]; exact hpc
        have hgw1 : g < W1.heap.size := Nat.lt_of_lt_of_le hgr HB1.out.size
        have g1 : (0 : Int) < (i : Int) := by omega
        have hk3 : (k : Int) ≤ 1000 := by omega
        clear hp hpb hpc hk
        by_cases hbb : cb < b
        · have HE := hidq (show res = 14 ∧ Below w.heap.size w W1 from ⟨HSTOP.out 14 (hstep14 HT.out (.inl (by rw [HC.out.2.1]; exact hbb))) (by decide), HLOW.out⟩)
          clear HSTOP HNEXT
          go_wp2_with fail
          go_region
          go_wp2_with fail
          go_ret
          exact ⟨by rw [HE.out.1]; rfl, by first | exact HE.out.2 | exact HE.out.2.drew⟩
        have HNB := hidq (show ¬ c.beg < b from by rw [HC.out.2.1]; exact hbb)
        have g3 : decide (cb < b) = false := decide_eq_false hbb
        clear hbb
        go_wp2_with fail
        go_region
        go_wp2_with fail
        clear g1 g3 hsub hpc1 hkn hknI hk3 hgw1
      all_goals
        obtain ⟨w7, h7⟩ : ∃ w7, w7 = w6 := ⟨_, rfl⟩
        subst h7
        have HNO := hidq (fun (j : Nat) (d : Cl) (hj : j < i) (hd : LC[j]? = some d) (hr : rbad c d) => (show res = 14 from HSTOP.out 14 (hstep14 HT.out (.inr (.inr (.inr ((HCK.out.1.folq (by have := HNB.out; omega) (by rw [HC.out.2.2]; have := HF1.out; omega) (by rw [HC.out.2.1, HC.out.2.2]; intro q; have := HBF.out; omega)).2 ⟨j, d, hj, hd, hr⟩))))) (by decide)))
        have HYES := hidq (fun (hall : ∀ (j : Nat) (d : Cl), j < i → LC[j]? = some d → ¬ rbad c d) => (show CkI LC (i + 1) c.beg (dset D c) ∧ hchk (LC.drop (i + 1)) c.beg (dset D c) = res from by
          have hs : hstep b D c = 0 := hstep0 HT.out (fun e => by
            rcases e with e | e | e | e
            · have := HNB.out; omega
            · rw [HC.out.2.2] at e; have := HF1.out; omega
            · rw [HC.out.2.1, HC.out.2.2] at e; have := HBF.out; omega
            · obtain ⟨j, d, hj, hd, hr⟩ := (HCK.out.1.folq (by have := HNB.out; omega) (by rw [HC.out.2.2]; have := HF1.out; omega) (by rw [HC.out.2.1, HC.out.2.2]; intro q; have := HBF.out; omega)).1 e
              exact hall j d hj hd hr)
          exact ⟨HCK.out.1.next HCK.out.2 hs, HNEXT.out hs⟩))
        clear HSTOP HNEXT
        go_loopw [5] (fun s5 wr => ∃ j : Nat, s5 = .int .i64 (j : Int) ∧ j ≤ i ∧ Hid ((∀ (q : Nat) (d : Cl), q < j → LC[q]? = some d → ¬ rbad c d) ∧ Below W1.heap.size W1 wr)) (fun s5 _ => i - (intOf s5).toNat)
        case atStart => exact ⟨0, rfl, Nat.zero_le _, hidq ⟨fun q d hq => absurd hq (Nat.not_lt_zero _), by first | exact Below.refl _ _ | exact (Below.refl _ _).drew⟩⟩
        case round =>
          obtain ⟨j, rfl, hj, hY⟩ := hrel
          by_cases hjl : j < i
          case neg =>
            have hji : j = i := by omega
            have hd1 : decide ((j : Int) < (i : Int)) = false := decide_eq_false (by omega)
            have hd2 : decide (j < i) = false := decide_eq_false hjl
            have HE := hidq (show CkI LC (i + 1) c.beg (dset D c) ∧ hchk (LC.drop (i + 1)) c.beg (dset D c) = res ∧ Below w.heap.size w wr from by
              obtain ⟨y1, y2⟩ := hY.out
              rw [hji] at y1
              obtain ⟨z1, z2⟩ := HYES.out (fun j d hj hd => y1 j d hj hd)
              exact ⟨z1, z2, HLOW.out.trans (y2.mono HLOW.out.size)⟩)
            clear hji hY
            go_wp2_with fail
            go_roundw
            case rel => exact ⟨i + 1, c.beg, dset D c, by go_num, by omega, HE⟩
            case measure => simp [intOf]; omega
          have hjI : (j : Int) < (i : Int) := by omega
          obtain ⟨d, hd⟩ : ∃ d, LC[j]? = some d := ⟨_, List.getElem?_eq_getElem (by have := HH.out.2; omega)⟩
          obtain ⟨dt, hdt⟩ : ∃ dt, d.thread = dt := ⟨_, rfl⟩
          obtain ⟨db, hdb⟩ : ∃ db, d.beg = db := ⟨_, rfl⟩
          obtain ⟨df, hdf⟩ : ∃ df, d.fin = df := ⟨_, rfl⟩
          have hjn : j < n := by omega
          have hjnI : (j : Int) < (n : Int) := by omega
          have FC := hidq (fun W (hW : Below wr.heap.size wr W) => (show W.cell? ⟨xb, 0, none⟩ = some (.int .i64 ct) ∧ W.cell? ⟨xb, 1, none⟩ = some (.int .i64 cb) ∧ W.cell? ⟨xb, 2, none⟩ = some (.int .i64 cf) ∧ W.cell? ⟨g, j * 3, none⟩ = some (.int .i64 dt) ∧ W.cell? ⟨g, j * 3 + 1, none⟩ = some (.int .i64 db) ∧ W.cell? ⟨g, j * 3 + 2, none⟩ = some (.int .i64 df) ∧ xb < W.heap.size ∧ g < W.heap.size from by
            have hb := hY.out.2.trans (hW.mono hY.out.2.size)
            have hX := HX1.out.below hb
            have hlo := HLOW.out.trans (hb.mono HLOW.out.size)
            refine ⟨(hX.get 0 _ rfl).1, (hX.get 1 _ rfl).1, (hX.get 2 _ rfl).1, ?_, ?_, ?_, hX.lt, Nat.lt_of_lt_of_le HROW.out.2 hlo.size⟩
            · rw [hlo.cell (p := ⟨g, j * 3, none⟩) HROW.out.2, ← hdt]; exact HROW.out.1 j 0 d _ hd rfl
            · rw [hlo.cell (p := ⟨g, j * 3 + 1, none⟩) HROW.out.2, ← hdb]; exact HROW.out.1 j 1 d _ hd rfl
            · rw [hlo.cell (p := ⟨g, j * 3 + 2, none⟩) HROW.out.2, ← hdf]; exact HROW.out.1 j 2 d _ hd rfl))
          have HRB := hidq (show rbad c d ↔ (dt = ct ∧ ¬ (0 ≤ df ∧ df < cb)) ∨ (¬ cf = -1 ∧ df = cf) from by unfold rbad; rw [hdt, hdf, HC.out.1, HC.out.2.1, HC.out.2.2])
          have HD := hidq hd
          clear hd hdt hdb hdf
          obtain ⟨q, hq⟩ : ∃ q, decide (0 ≤ df ∧ df < cb) = q := ⟨_, rfl⟩
          have HAH := hidq (fun w => rahead_ints dt db df ct cb cf w)
          rw [hq] at HAH
          have HQ := hidq hq
          clear hq
          by_cases hth : dt = ct
          focus
            have t1 : (dt == ct) = true := by simpa using hth
            have HTH := hidq hth
            clear hth
            go_wp2_with fail
            have hrefl : ∀ w : World, Reg.Keeps w w := Reg.Keeps.refl
            refine Reg.wp_region_props (Reg.ofList (rc13tR g xb n cap j ct cb cf dt db df q)) Reg.Keeps (fun _ w => Reg.Keeps wr w) (by kernel_rfl) (by kernel_rfl) (Reg.AllKept.at _ (rc13tR_kept g xb n cap j ct cb cf dt db df q)) hrefl (Reg.Keeps.drewN (Reg.Keeps.refl _) 1) ⟨?_, ?_, ?_, ?_, ?_, ?_, ?_, ?_, ?_, ?_, ?_, ?_, ?_, ?_, ?_, ?_, ?_, trivial⟩ ?_
            · refine Reg.StepAt.plain (i := 0) rfl ?_
              intro L ev w hI hk hp hA
              have e0 : ev (.tmp 0) = .slice (some ⟨g, 0, none⟩) n cap := hA.oldNone 0 (by kernel_rfl)
              have hcc := hA.const
              clear hA hp
              refine Reg.out_value (v := .slice (some ⟨g, 0, none⟩) n cap) ?_ ⟨rfl, hrefl _, hI⟩
              go_simp
            · refine Reg.StepAt.plain (i := 1) rfl ?_
              intro L ev w hI hk hp hA
              have e5 : ev (.tmp 5) = .int .i64 (j : Int) := hA.oldNone 5 (by kernel_rfl)
              have hcc := hA.const
              clear hA hp
              refine Reg.out_value (v := .int .i64 (j : Int)) ?_ ⟨rfl, hrefl _, hI⟩
              go_simp
            · refine Reg.StepAt.plain (i := 2) rfl ?_
              intro L ev w hI hk hp hA
              have e59 : ev (.tmp 59) = .slice (some ⟨g, 0, none⟩) n cap := hA.val 0 _ 59 rfl (hp ⟨0, .data⟩ (by simp) rfl) rfl
              have e60 : ev (.tmp 60) = .int .i64 (j : Int) := hA.val 1 _ 60 rfl (hp ⟨1, .data⟩ (by simp) rfl) rfl
              have hcc := hA.const
              clear hA hp
              refine Reg.out_value (v := .pointer (some ⟨g, j * 3, none⟩)) ?_ ⟨rfl, hrefl _, hI⟩
              go_simp
            · refine Reg.StepAt.plain (i := 3) rfl ?_
              intro L ev w hI hk hp hA
              have e61 : ev (.tmp 61) = .pointer (some ⟨g, j * 3, none⟩) := hA.val 2 _ 61 rfl (hp ⟨2, .data⟩ (by simp) rfl) rfl
              have hcc := hA.const
              clear hA hp
              refine Reg.out_value (v := .pointer (some ⟨g, j * 3, none⟩)) ?_ ⟨rfl, hrefl _, hI⟩
              go_simp
            · refine Reg.StepAt.plain (i := 4) rfl ?_
              intro L ev w hI hk hp hA
              have e62 : ev (.tmp 62) = .pointer (some ⟨g, j * 3, none⟩) := hA.val 3 _ 62 rfl (hp ⟨3, .data⟩ (by simp) rfl) rfl
              have hcc := hA.const
              clear hA hp
              obtain ⟨p0, p1, p2, p3, p4, p5, p6, p7⟩ := FC.out w hI
              refine Reg.out_value (v := .int .i64 dt) ?_ ⟨rfl, hrefl _, hI⟩
              go_simp
            · refine Reg.StepAt.plain (i := 5) rfl ?_
              intro L ev w hI hk hp hA
              have e4 : ev (.tmp 4) = .pointer (some ⟨xb, 0, none⟩) := hA.oldNone 4 (by kernel_rfl)
              have hcc := hA.const
              clear hA hp
              refine Reg.out_value (v := .pointer (some ⟨xb, 0, none⟩)) ?_ ⟨rfl, hrefl _, hI⟩
              go_simp
            · refine Reg.StepAt.plain (i := 6) rfl ?_
              intro L ev w hI hk hp hA
              have e64 : ev (.tmp 64) = .pointer (some ⟨xb, 0, none⟩) := hA.val 5 _ 64 rfl (hp ⟨5, .data⟩ (by simp) rfl) rfl
              have hcc := hA.const
              clear hA hp
              obtain ⟨p0, p1, p2, p3, p4, p5, p6, p7⟩ := FC.out w hI
              refine Reg.out_value (v := .int .i64 ct) ?_ ⟨rfl, hrefl _, hI⟩
              go_simp
            · refine Reg.StepAt.plain (i := 7) rfl ?_
              intro L ev w hI hk hp hA
              have e63 : ev (.tmp 63) = .int .i64 dt := hA.val 4 _ 63 rfl (hp ⟨4, .data⟩ (by simp) rfl) rfl
              have e65 : ev (.tmp 65) = .int .i64 ct := hA.val 6 _ 65 rfl (hp ⟨6, .data⟩ (by simp) rfl) rfl
              have hcc := hA.const
              clear hA hp
              refine Reg.out_value (v := .bool true) ?_ ⟨rfl, hrefl _, hI⟩
              go_simp
            · refine Reg.StepAt.plain (i := 8) rfl ?_
              intro L ev w hI hk hp hA
              have e66 : ev (.tmp 66) = .bool true := hA.val 7 _ 66 rfl (hp ⟨7, .data⟩ (by simp) rfl) rfl
              have hcc := hA.const
              clear hA hp
              refine Reg.out_value (v := .bool true) ?_ ⟨rfl, hrefl _, hI⟩
              go_simp
            · refine Reg.StepAt.guarded (i := 9) rfl ?_
              intro L ev w hI hk hp hA
              have e0 : ev (.tmp 0) = .slice (some ⟨g, 0, none⟩) n cap := hA.oldNone 0 (by kernel_rfl)
              have eg : ev (.tmp 67) = .bool true := hA.val 8 _ 67 rfl (hp ⟨8, .guard⟩ (by simp) rfl) rfl
              refine ⟨_, 67, true, rfl, rfl, eg, ?_⟩
              rw [if_pos rfl]
              have hcc := hA.const
              clear hA hp
              refine Reg.out_value (v := .slice (some ⟨g, 0, none⟩) n cap) ?_ ⟨rfl, hrefl _, hI⟩
              go_simp
            · refine Reg.StepAt.guarded (i := 10) rfl ?_
              intro L ev w hI hk hp hA
              have e5 : ev (.tmp 5) = .int .i64 (j : Int) := hA.oldNone 5 (by kernel_rfl)
              have eg : ev (.tmp 67) = .bool true := hA.val 8 _ 67 rfl (hp ⟨8, .guard⟩ (by simp) rfl) rfl
              refine ⟨_, 67, true, rfl, rfl, eg, ?_⟩
              rw [if_pos rfl]
              have hcc := hA.const
              clear hA hp
              refine Reg.out_value (v := .int .i64 (j : Int)) ?_ ⟨rfl, hrefl _, hI⟩
              go_simp
            · refine Reg.StepAt.guarded (i := 11) rfl ?_
              intro L ev w hI hk hp hA
              have e68 : ev (.tmp 68) = .slice (some ⟨g, 0, none⟩) n cap := hA.val 9 _ 68 rfl (hp ⟨9, .data⟩ (by simp) rfl) rfl
              have e69 : ev (.tmp 69) = .int .i64 (j : Int) := hA.val 10 _ 69 rfl (hp ⟨10, .data⟩ (by simp) rfl) rfl
              have eg : ev (.tmp 67) = .bool true := hA.val 8 _ 67 rfl (hp ⟨8, .guard⟩ (by simp) rfl) rfl
              refine ⟨_, 67, true, rfl, rfl, eg, ?_⟩
              rw [if_pos rfl]
              have hcc := hA.const
              clear hA hp
              refine Reg.out_value (v := .pointer (some ⟨g, j * 3, none⟩)) ?_ ⟨rfl, hrefl _, hI⟩
              go_simp
            · refine Reg.StepAt.guarded (i := 12) rfl ?_
              intro L ev w hI hk hp hA
              have e70 : ev (.tmp 70) = .pointer (some ⟨g, j * 3, none⟩) := hA.val 11 _ 70 rfl (hp ⟨11, .data⟩ (by simp) rfl) rfl
              have eg : ev (.tmp 67) = .bool true := hA.val 8 _ 67 rfl (hp ⟨8, .guard⟩ (by simp) rfl) rfl
              refine ⟨_, 67, true, rfl, rfl, eg, ?_⟩
              rw [if_pos rfl]
              have hcc := hA.const
              clear hA hp
              obtain ⟨p0, p1, p2, p3, p4, p5, p6, p7⟩ := FC.out w hI
              refine Reg.out_value (v := .agg #[.int .i64 dt, .int .i64 db, .int .i64 df]) ?_ ⟨rfl, hrefl _, hI⟩
              go_simp
            · refine Reg.StepAt.guarded (i := 13) rfl ?_
              intro L ev w hI hk hp hA
              have e4 : ev (.tmp 4) = .pointer (some ⟨xb, 0, none⟩) := hA.oldNone 4 (by kernel_rfl)
              have eg : ev (.tmp 67) = .bool true := hA.val 8 _ 67 rfl (hp ⟨8, .guard⟩ (by simp) rfl) rfl
              refine ⟨_, 67, true, rfl, rfl, eg, ?_⟩
              rw [if_pos rfl]
              have hcc := hA.const
              clear hA hp
              obtain ⟨p0, p1, p2, p3, p4, p5, p6, p7⟩ := FC.out w hI
              refine Reg.out_value (v := .agg #[.int .i64 ct, .int .i64 cb, .int .i64 cf]) ?_ ⟨rfl, hrefl _, hI⟩
              go_simp
            · refine Reg.StepAt.guarded (i := 14) rfl ?_
              intro L ev w hI hk hp hA
              have e71 : ev (.tmp 71) = .agg #[.int .i64 dt, .int .i64 db, .int .i64 df] := hA.val 12 _ 71 rfl (hp ⟨12, .data⟩ (by simp) rfl) rfl
              have e72 : ev (.tmp 72) = .agg #[.int .i64 ct, .int .i64 cb, .int .i64 cf] := hA.val 13 _ 72 rfl (hp ⟨13, .data⟩ (by simp) rfl) rfl
              have eg : ev (.tmp 67) = .bool true := hA.val 8 _ 67 rfl (hp ⟨8, .chain⟩ (by simp) rfl) rfl
              refine ⟨_, 67, true, rfl, rfl, eg, ?_⟩
              rw [if_pos rfl]
              have hcc := hA.const
              have hcf := hA.func
              clear hA hp
              refine Reg.out_call (f := 46) (args := #[.agg #[.int .i64 dt, .int .i64 db, .int .i64 df], .agg #[.int .i64 ct, .int .i64 cb, .int .i64 cf]]) (w0 := w) ?_ ?_
              · go_simp
              refine (HAH.out w).mono ?_
              rintro e w' ⟨rfl, hb'⟩
              exact ⟨_, rfl, rfl, hb', Reg.Keeps.trans hI hb'⟩
            · refine Reg.StepAt.guarded (i := 15) rfl ?_
              intro L ev w hI hk hp hA
              have e73 : ev (.tmp 73) = .bool q := hA.val 14 _ 73 rfl (hp ⟨14, .data⟩ (by simp) rfl) rfl
              have eg : ev (.tmp 67) = .bool true := hA.val 8 _ 67 rfl (hp ⟨8, .guard⟩ (by simp) rfl) rfl
              refine ⟨_, 67, true, rfl, rfl, eg, ?_⟩
              rw [if_pos rfl]
              have hcc := hA.const
              clear hA hp
              refine Reg.out_value (v := .bool (!q)) ?_ ⟨rfl, hrefl _, hI⟩
              go_simp
            · refine Reg.StepAt.plain (i := 16) rfl ?_
              intro L ev w hI hk hp hA
              have e67 : ev (.tmp 67) = .bool true := hA.val 8 _ 67 rfl (hp ⟨8, .data⟩ (by simp) rfl) rfl
              have e74 : ev (.tmp 74) = .bool (!q) := hA.val 15 _ 74 rfl (hp ⟨15, .data⟩ (by simp) rfl) rfl
              have hcc := hA.const
              clear hA hp
              refine Reg.out_value (v := .bool (!q)) ?_ ⟨rfl, hrefl _, hI⟩
              go_simp
            intro L act wz hall hI hF
            have g59 : act.eval (.tmp 59) = .slice (some ⟨g, 0, none⟩) n cap := hF.val 0 _ 59 rfl (hall 0 (by simp)) rfl
            have g60 : act.eval (.tmp 60) = .int .i64 (j : Int) := hF.val 1 _ 60 rfl (hall 1 (by simp)) rfl
            have g61 : act.eval (.tmp 61) = .pointer (some ⟨g, j * 3, none⟩) := hF.val 2 _ 61 rfl (hall 2 (by simp)) rfl
            have g62 : act.eval (.tmp 62) = .pointer (some ⟨g, j * 3, none⟩) := hF.val 3 _ 62 rfl (hall 3 (by simp)) rfl
            have g63 : act.eval (.tmp 63) = .int .i64 dt := hF.val 4 _ 63 rfl (hall 4 (by simp)) rfl
            have g64 : act.eval (.tmp 64) = .pointer (some ⟨xb, 0, none⟩) := hF.val 5 _ 64 rfl (hall 5 (by simp)) rfl
            have g65 : act.eval (.tmp 65) = .int .i64 ct := hF.val 6 _ 65 rfl (hall 6 (by simp)) rfl
            have g66 : act.eval (.tmp 66) = .bool true := hF.val 7 _ 66 rfl (hall 7 (by simp)) rfl
            have g67 : act.eval (.tmp 67) = .bool true := hF.val 8 _ 67 rfl (hall 8 (by simp)) rfl
            have g68 : act.eval (.tmp 68) = .slice (some ⟨g, 0, none⟩) n cap := hF.val 9 _ 68 rfl (hall 9 (by simp)) rfl
            have g69 : act.eval (.tmp 69) = .int .i64 (j : Int) := hF.val 10 _ 69 rfl (hall 10 (by simp)) rfl
            have g70 : act.eval (.tmp 70) = .pointer (some ⟨g, j * 3, none⟩) := hF.val 11 _ 70 rfl (hall 11 (by simp)) rfl
            have g71 : act.eval (.tmp 71) = .agg #[.int .i64 dt, .int .i64 db, .int .i64 df] := hF.val 12 _ 71 rfl (hall 12 (by simp)) rfl
            have g72 : act.eval (.tmp 72) = .agg #[.int .i64 ct, .int .i64 cb, .int .i64 cf] := hF.val 13 _ 72 rfl (hall 13 (by simp)) rfl
            have g73 : act.eval (.tmp 73) = .bool q := hF.val 14 _ 73 rfl (hall 14 (by simp)) rfl
            have g74 : act.eval (.tmp 74) = .bool (!q) := hF.val 15 _ 74 rfl (hall 15 (by simp)) rfl
            have g75 : act.eval (.tmp 75) = .bool (!q) := hF.val 16 _ 75 rfl (hall 16 (by simp)) rfl
            have hact := hF.act [59, 60, 61, 62, 63, 64, 65, 66, 67, 68, 69, 70, 71, 72, 73, 74, 75] (by kernel_rfl)
            clear hF hall
            simp only [List.foldl_cons, List.foldl_nil] at hact
            rw [g59, g60, g61, g62, g63, g64, g65, g66, g67, g68, g69, g70, g71, g72, g73, g74, g75] at hact
            clear g59 g60 g61 g62 g63 g64 g65 g66 g67 g68 g69 g70 g71 g72 g73 g74 g75
            simp only [List.setIfInBounds_toArray, List.set_cons_succ, List.set_cons_zero] at hact
            subst hact
            have hqq : q = false ∨ q = true := by cases q <;> simp
            rcases hqq with rfl | rfl
            · have HE := hidq (show res = 14 ∧ Below w.heap.size w wz from ⟨HNO.out j d hjl HD.out (HRB.out.2 (.inl ⟨HTH.out, of_decide_eq_false HQ.out⟩)), (HLOW.out.trans (hY.out.2.mono HLOW.out.size)).trans ((show Below wr.heap.size wr wz from hI).mono (HLOW.out.trans (hY.out.2.mono HLOW.out.size)).size)⟩)
              clear hI HNO HYES
              go_wp2_with fail
              go_ret
              exact ⟨by rw [HE.out.1]; rfl, HE.out.2⟩
            have HA := hidq (show ¬ (dt = ct ∧ ¬ (0 ≤ df ∧ df < cb)) from fun e => e.2 (of_decide_eq_true HQ.out))
            have HZ := hidq (show Below wr.heap.size wr wz from hI)
            clear hI t1 HTH
            go_wp2_with fail
          rotate_left
          focus
            have t1 : (dt == ct) = false := by simpa using hth
            have HA := hidq (show ¬ (dt = ct ∧ ¬ (0 ≤ df ∧ df < cb)) from fun e => hth e.1)
            clear hth
            go_wp2_with fail
            have hrefl : ∀ w : World, Reg.Keeps w w := Reg.Keeps.refl
            refine Reg.wp_region_props (Reg.ofList (rc13fR g xb n cap j ct dt)) Reg.Keeps (fun _ w => Reg.Keeps wr w) (by kernel_rfl) (by kernel_rfl) (Reg.AllKept.at _ (rc13fR_kept g xb n cap j ct dt)) hrefl (Reg.Keeps.drewN (Reg.Keeps.refl _) 1) ⟨?_, ?_, ?_, ?_, ?_, ?_, ?_, ?_, ?_, ?_, ?_, ?_, ?_, ?_, ?_, ?_, ?_, trivial⟩ ?_
            · refine Reg.StepAt.plain (i := 0) rfl ?_
              intro L ev w hI hk hp hA
              have e0 : ev (.tmp 0) = .slice (some ⟨g, 0, none⟩) n cap := hA.oldNone 0 (by kernel_rfl)
              have hcc := hA.const
              clear hA hp
              refine Reg.out_value (v := .slice (some ⟨g, 0, none⟩) n cap) ?_ ⟨rfl, hrefl _, hI⟩
              go_simp
            · refine Reg.StepAt.plain (i := 1) rfl ?_
              intro L ev w hI hk hp hA
              have e5 : ev (.tmp 5) = .int .i64 (j : Int) := hA.oldNone 5 (by kernel_rfl)
              have hcc := hA.const
              clear hA hp
              refine Reg.out_value (v := .int .i64 (j : Int)) ?_ ⟨rfl, hrefl _, hI⟩
              go_simp
            · refine Reg.StepAt.plain (i := 2) rfl ?_
              intro L ev w hI hk hp hA
              have e59 : ev (.tmp 59) = .slice (some ⟨g, 0, none⟩) n cap := hA.val 0 _ 59 rfl (hp ⟨0, .data⟩ (by simp) rfl) rfl
              have e60 : ev (.tmp 60) = .int .i64 (j : Int) := hA.val 1 _ 60 rfl (hp ⟨1, .data⟩ (by simp) rfl) rfl
              have hcc := hA.const
              clear hA hp
              refine Reg.out_value (v := .pointer (some ⟨g, j * 3, none⟩)) ?_ ⟨rfl, hrefl _, hI⟩
              go_simp
            · refine Reg.StepAt.plain (i := 3) rfl ?_
              intro L ev w hI hk hp hA
              have e61 : ev (.tmp 61) = .pointer (some ⟨g, j * 3, none⟩) := hA.val 2 _ 61 rfl (hp ⟨2, .data⟩ (by simp) rfl) rfl
              have hcc := hA.const
              clear hA hp
              refine Reg.out_value (v := .pointer (some ⟨g, j * 3, none⟩)) ?_ ⟨rfl, hrefl _, hI⟩
              go_simp
            · refine Reg.StepAt.plain (i := 4) rfl ?_
              intro L ev w hI hk hp hA
              have e62 : ev (.tmp 62) = .pointer (some ⟨g, j * 3, none⟩) := hA.val 3 _ 62 rfl (hp ⟨3, .data⟩ (by simp) rfl) rfl
              have hcc := hA.const
              clear hA hp
              obtain ⟨p0, p1, p2, p3, p4, p5, p6, p7⟩ := FC.out w hI
              refine Reg.out_value (v := .int .i64 dt) ?_ ⟨rfl, hrefl _, hI⟩
              go_simp
            · refine Reg.StepAt.plain (i := 5) rfl ?_
              intro L ev w hI hk hp hA
              have e4 : ev (.tmp 4) = .pointer (some ⟨xb, 0, none⟩) := hA.oldNone 4 (by kernel_rfl)
              have hcc := hA.const
              clear hA hp
              refine Reg.out_value (v := .pointer (some ⟨xb, 0, none⟩)) ?_ ⟨rfl, hrefl _, hI⟩
              go_simp
            · refine Reg.StepAt.plain (i := 6) rfl ?_
              intro L ev w hI hk hp hA
              have e64 : ev (.tmp 64) = .pointer (some ⟨xb, 0, none⟩) := hA.val 5 _ 64 rfl (hp ⟨5, .data⟩ (by simp) rfl) rfl
              have hcc := hA.const
              clear hA hp
              obtain ⟨p0, p1, p2, p3, p4, p5, p6, p7⟩ := FC.out w hI
              refine Reg.out_value (v := .int .i64 ct) ?_ ⟨rfl, hrefl _, hI⟩
              go_simp
            · refine Reg.StepAt.plain (i := 7) rfl ?_
              intro L ev w hI hk hp hA
              have e63 : ev (.tmp 63) = .int .i64 dt := hA.val 4 _ 63 rfl (hp ⟨4, .data⟩ (by simp) rfl) rfl
              have e65 : ev (.tmp 65) = .int .i64 ct := hA.val 6 _ 65 rfl (hp ⟨6, .data⟩ (by simp) rfl) rfl
              have hcc := hA.const
              clear hA hp
              refine Reg.out_value (v := .bool false) ?_ ⟨rfl, hrefl _, hI⟩
              go_simp
            · refine Reg.StepAt.plain (i := 8) rfl ?_
              intro L ev w hI hk hp hA
              have e66 : ev (.tmp 66) = .bool false := hA.val 7 _ 66 rfl (hp ⟨7, .data⟩ (by simp) rfl) rfl
              have hcc := hA.const
              clear hA hp
              refine Reg.out_value (v := .bool false) ?_ ⟨rfl, hrefl _, hI⟩
              go_simp
            · refine Reg.StepAt.guarded (i := 9) rfl ?_
              intro L ev w hI hk hp hA
              have e0 : ev (.tmp 0) = .slice (some ⟨g, 0, none⟩) n cap := hA.oldNone 0 (by kernel_rfl)
              have eg : ev (.tmp 67) = .bool false := hA.val 8 _ 67 rfl (hp ⟨8, .guard⟩ (by simp) rfl) rfl
              refine ⟨_, 67, false, rfl, rfl, eg, ?_⟩
              rw [if_neg (by decide)]
              have hcc := hA.const
              clear hA hp
              exact ⟨rfl, hI⟩
            · refine Reg.StepAt.guarded (i := 10) rfl ?_
              intro L ev w hI hk hp hA
              have e5 : ev (.tmp 5) = .int .i64 (j : Int) := hA.oldNone 5 (by kernel_rfl)
              have eg : ev (.tmp 67) = .bool false := hA.val 8 _ 67 rfl (hp ⟨8, .guard⟩ (by simp) rfl) rfl
              refine ⟨_, 67, false, rfl, rfl, eg, ?_⟩
              rw [if_neg (by decide)]
              have hcc := hA.const
              clear hA hp
              exact ⟨rfl, hI⟩
            · refine Reg.StepAt.guarded (i := 11) rfl ?_
              intro L ev w hI hk hp hA
              have e68 : (fun v _ => v = undef) (ev (.tmp 68)) w := hA.val 9 _ 68 rfl (hp ⟨9, .data⟩ (by simp) rfl) rfl
              have e69 : (fun v _ => v = undef) (ev (.tmp 69)) w := hA.val 10 _ 69 rfl (hp ⟨10, .data⟩ (by simp) rfl) rfl
              have eg : ev (.tmp 67) = .bool false := hA.val 8 _ 67 rfl (hp ⟨8, .guard⟩ (by simp) rfl) rfl
              refine ⟨_, 67, false, rfl, rfl, eg, ?_⟩
              rw [if_neg (by decide)]
              have hcc := hA.const
              clear hA hp
              exact ⟨rfl, hI⟩
            · refine Reg.StepAt.guarded (i := 12) rfl ?_
              intro L ev w hI hk hp hA
              have e70 : (fun v _ => v = undef) (ev (.tmp 70)) w := hA.val 11 _ 70 rfl (hp ⟨11, .data⟩ (by simp) rfl) rfl
              have eg : ev (.tmp 67) = .bool false := hA.val 8 _ 67 rfl (hp ⟨8, .guard⟩ (by simp) rfl) rfl
              refine ⟨_, 67, false, rfl, rfl, eg, ?_⟩
              rw [if_neg (by decide)]
              have hcc := hA.const
              clear hA hp
              exact ⟨rfl, hI⟩
            · refine Reg.StepAt.guarded (i := 13) rfl ?_
              intro L ev w hI hk hp hA
              have e4 : ev (.tmp 4) = .pointer (some ⟨xb, 0, none⟩) := hA.oldNone 4 (by kernel_rfl)
              have eg : ev (.tmp 67) = .bool false := hA.val 8 _ 67 rfl (hp ⟨8, .guard⟩ (by simp) rfl) rfl
              refine ⟨_, 67, false, rfl, rfl, eg, ?_⟩
              rw [if_neg (by decide)]
              have hcc := hA.const
              clear hA hp
              exact ⟨rfl, hI⟩
            · refine Reg.StepAt.guarded (i := 14) rfl ?_
              intro L ev w hI hk hp hA
              have e71 : (fun v _ => v = undef) (ev (.tmp 71)) w := hA.val 12 _ 71 rfl (hp ⟨12, .data⟩ (by simp) rfl) rfl
              have e72 : (fun v _ => v = undef) (ev (.tmp 72)) w := hA.val 13 _ 72 rfl (hp ⟨13, .data⟩ (by simp) rfl) rfl
              have eg : ev (.tmp 67) = .bool false := hA.val 8 _ 67 rfl (hp ⟨8, .chain⟩ (by simp) rfl) rfl
              refine ⟨_, 67, false, rfl, rfl, eg, ?_⟩
              rw [if_neg (by decide)]
              have hcc := hA.const
              have hcf := hA.func
              clear hA hp
              exact ⟨rfl, hI⟩
            · refine Reg.StepAt.guarded (i := 15) rfl ?_
              intro L ev w hI hk hp hA
              have e73 : (fun v _ => v = undef) (ev (.tmp 73)) w := hA.val 14 _ 73 rfl (hp ⟨14, .data⟩ (by simp) rfl) rfl
              have eg : ev (.tmp 67) = .bool false := hA.val 8 _ 67 rfl (hp ⟨8, .guard⟩ (by simp) rfl) rfl
              refine ⟨_, 67, false, rfl, rfl, eg, ?_⟩
              rw [if_neg (by decide)]
              have hcc := hA.const
              clear hA hp
              exact ⟨rfl, hI⟩
            · refine Reg.StepAt.plain (i := 16) rfl ?_
              intro L ev w hI hk hp hA
              have e67 : ev (.tmp 67) = .bool false := hA.val 8 _ 67 rfl (hp ⟨8, .data⟩ (by simp) rfl) rfl
              have e74 : (fun v _ => v = undef) (ev (.tmp 74)) w := hA.val 15 _ 74 rfl (hp ⟨15, .data⟩ (by simp) rfl) rfl
              have hcc := hA.const
              clear hA hp
              refine Reg.out_value (v := .bool false) ?_ ⟨rfl, hrefl _, hI⟩
              go_simp
            intro L act wz hall hI hF
            have g59 : act.eval (.tmp 59) = .slice (some ⟨g, 0, none⟩) n cap := hF.val 0 _ 59 rfl (hall 0 (by simp)) rfl
            have g60 : act.eval (.tmp 60) = .int .i64 (j : Int) := hF.val 1 _ 60 rfl (hall 1 (by simp)) rfl
            have g61 : act.eval (.tmp 61) = .pointer (some ⟨g, j * 3, none⟩) := hF.val 2 _ 61 rfl (hall 2 (by simp)) rfl
            have g62 : act.eval (.tmp 62) = .pointer (some ⟨g, j * 3, none⟩) := hF.val 3 _ 62 rfl (hall 3 (by simp)) rfl
            have g63 : act.eval (.tmp 63) = .int .i64 dt := hF.val 4 _ 63 rfl (hall 4 (by simp)) rfl
            have g64 : act.eval (.tmp 64) = .pointer (some ⟨xb, 0, none⟩) := hF.val 5 _ 64 rfl (hall 5 (by simp)) rfl
            have g65 : act.eval (.tmp 65) = .int .i64 ct := hF.val 6 _ 65 rfl (hall 6 (by simp)) rfl
            have g66 : act.eval (.tmp 66) = .bool false := hF.val 7 _ 66 rfl (hall 7 (by simp)) rfl
            have g67 : act.eval (.tmp 67) = .bool false := hF.val 8 _ 67 rfl (hall 8 (by simp)) rfl
            have g68 : (fun v _ => v = undef) (act.eval (.tmp 68)) wz := hF.val 9 _ 68 rfl (hall 9 (by simp)) rfl
            have g69 : (fun v _ => v = undef) (act.eval (.tmp 69)) wz := hF.val 10 _ 69 rfl (hall 10 (by simp)) rfl
            have g70 : (fun v _ => v = undef) (act.eval (.tmp 70)) wz := hF.val 11 _ 70 rfl (hall 11 (by simp)) rfl
            have g71 : (fun v _ => v = undef) (act.eval (.tmp 71)) wz := hF.val 12 _ 71 rfl (hall 12 (by simp)) rfl
            have g72 : (fun v _ => v = undef) (act.eval (.tmp 72)) wz := hF.val 13 _ 72 rfl (hall 13 (by simp)) rfl
            have g73 : (fun v _ => v = undef) (act.eval (.tmp 73)) wz := hF.val 14 _ 73 rfl (hall 14 (by simp)) rfl
            have g74 : (fun v _ => v = undef) (act.eval (.tmp 74)) wz := hF.val 15 _ 74 rfl (hall 15 (by simp)) rfl
            have g75 : act.eval (.tmp 75) = .bool false := hF.val 16 _ 75 rfl (hall 16 (by simp)) rfl
            have hact := hF.act [59, 60, 61, 62, 63, 64, 65, 66, 67, 68, 69, 70, 71, 72, 73, 74, 75] (by kernel_rfl)
            clear hF hall
            simp only [List.foldl_cons, List.foldl_nil] at hact
            rw [g59, g60, g61, g62, g63, g64, g65, g66, g67, g75] at hact
            clear g59 g60 g61 g62 g63 g64 g65 g66 g67 g75
            generalize act.eval (.tmp 68) = u68 at hact g68
            generalize act.eval (.tmp 69) = u69 at hact g69
            generalize act.eval (.tmp 70) = u70 at hact g70
            generalize act.eval (.tmp 71) = u71 at hact g71
            generalize act.eval (.tmp 72) = u72 at hact g72
            generalize act.eval (.tmp 73) = u73 at hact g73
            generalize act.eval (.tmp 74) = u74 at hact g74
            simp only [List.setIfInBounds_toArray, List.set_cons_succ, List.set_cons_zero] at hact
            subst hact
            have HZ := hidq (show Below wr.heap.size wr wz from hI)
            clear hI t1
            go_wp2_with fail
          all_goals
            obtain ⟨w8, h8⟩ : ∃ w8, w8 = wz := ⟨_, rfl⟩
            subst h8
            have FC0 := FC
            clear FC
            have FC := hidq (fun W (hW : Below w8.heap.size w8 W) => FC0.out W (HZ.out.trans (hW.mono HZ.out.size)))
            clear FC0
            by_cases hf2 : cf = -1
            focus
              have t2 : (cf == -1) = true := by simpa using hf2
              have t3 : (cf != -1) = false := by simpa using hf2
              have HB15 := hidq (show ¬ (¬ cf = -1 ∧ df = cf) from fun e => e.1 hf2)
              clear hf2
              have hrefl : ∀ w : World, Reg.Keeps w w := Reg.Keeps.refl
              refine Reg.wp_region_props (Reg.ofList (rc15fR xb cf)) Reg.Keeps (fun _ w => Reg.Keeps w8 w) (by kernel_rfl) (by kernel_rfl) (Reg.AllKept.at _ (rc15fR_kept xb cf)) hrefl (Reg.Keeps.drewN (Reg.Keeps.refl _) 1) ⟨?_, ?_, ?_, ?_, ?_, ?_, ?_, ?_, ?_, ?_, ?_, ?_, ?_, trivial⟩ ?_
              · refine Reg.StepAt.plain (i := 0) rfl ?_
                intro L ev w hI hk hp hA
                have e4 : ev (.tmp 4) = .pointer (some ⟨xb, 0, none⟩) := hA.oldNone 4 (by kernel_rfl)
                have hcc := hA.const
                clear hA hp
                refine Reg.out_value (v := .pointer (some ⟨xb, 2, none⟩)) ?_ ⟨rfl, hrefl _, hI⟩
                go_simp
              · refine Reg.StepAt.plain (i := 1) rfl ?_
                intro L ev w hI hk hp hA
                have e76 : ev (.tmp 76) = .pointer (some ⟨xb, 2, none⟩) := hA.val 0 _ 76 rfl (hp ⟨0, .data⟩ (by simp) rfl) rfl
                have hcc := hA.const
                clear hA hp
                obtain ⟨p0, p1, p2, p3, p4, p5, p6, p7⟩ := FC.out w hI
                refine Reg.out_value (v := .int .i64 cf) ?_ ⟨rfl, hrefl _, hI⟩
                go_simp
              · refine Reg.StepAt.plain (i := 2) rfl ?_
                intro L ev w hI hk hp hA
                have e77 : ev (.tmp 77) = .int .i64 cf := hA.val 1 _ 77 rfl (hp ⟨1, .data⟩ (by simp) rfl) rfl
                have hcc := hA.const
                clear hA hp
                refine Reg.out_value (v := .bool false) ?_ ⟨rfl, hrefl _, hI⟩
                go_simp
              · refine Reg.StepAt.plain (i := 3) rfl ?_
                intro L ev w hI hk hp hA
                have e78 : ev (.tmp 78) = .bool false := hA.val 2 _ 78 rfl (hp ⟨2, .data⟩ (by simp) rfl) rfl
                have hcc := hA.const
                clear hA hp
                refine Reg.out_value (v := .bool false) ?_ ⟨rfl, hrefl _, hI⟩
                go_simp
              · refine Reg.StepAt.guarded (i := 4) rfl ?_
                intro L ev w hI hk hp hA
                have e0 : ev (.tmp 0) = .slice (some ⟨g, 0, none⟩) n cap := hA.oldNone 0 (by kernel_rfl)
                have eg : ev (.tmp 79) = .bool false := hA.val 3 _ 79 rfl (hp ⟨3, .guard⟩ (by simp) rfl) rfl
                refine ⟨_, 79, false, rfl, rfl, eg, ?_⟩
                rw [if_neg (by decide)]
                have hcc := hA.const
                clear hA hp
                exact ⟨rfl, hI⟩
              · refine Reg.StepAt.guarded (i := 5) rfl ?_
                intro L ev w hI hk hp hA
                have e5 : ev (.tmp 5) = .int .i64 (j : Int) := hA.oldNone 5 (by kernel_rfl)
                have eg : ev (.tmp 79) = .bool false := hA.val 3 _ 79 rfl (hp ⟨3, .guard⟩ (by simp) rfl) rfl
                refine ⟨_, 79, false, rfl, rfl, eg, ?_⟩
                rw [if_neg (by decide)]
                have hcc := hA.const
                clear hA hp
                exact ⟨rfl, hI⟩
              · refine Reg.StepAt.guarded (i := 6) rfl ?_
                intro L ev w hI hk hp hA
                have e80 : (fun v _ => v = undef) (ev (.tmp 80)) w := hA.val 4 _ 80 rfl (hp ⟨4, .data⟩ (by simp) rfl) rfl
                have e81 : (fun v _ => v = undef) (ev (.tmp 81)) w := hA.val 5 _ 81 rfl (hp ⟨5, .data⟩ (by simp) rfl) rfl
                have eg : ev (.tmp 79) = .bool false := hA.val 3 _ 79 rfl (hp ⟨3, .guard⟩ (by simp) rfl) rfl
                refine ⟨_, 79, false, rfl, rfl, eg, ?_⟩
                rw [if_neg (by decide)]
                have hcc := hA.const
                clear hA hp
                exact ⟨rfl, hI⟩
              · refine Reg.StepAt.guarded (i := 7) rfl ?_
                intro L ev w hI hk hp hA
                have e82 : (fun v _ => v = undef) (ev (.tmp 82)) w := hA.val 6 _ 82 rfl (hp ⟨6, .data⟩ (by simp) rfl) rfl
                have eg : ev (.tmp 79) = .bool false := hA.val 3 _ 79 rfl (hp ⟨3, .guard⟩ (by simp) rfl) rfl
                refine ⟨_, 79, false, rfl, rfl, eg, ?_⟩
                rw [if_neg (by decide)]
                have hcc := hA.const
                clear hA hp
                exact ⟨rfl, hI⟩
              · refine Reg.StepAt.guarded (i := 8) rfl ?_
                intro L ev w hI hk hp hA
                have e83 : (fun v _ => v = undef) (ev (.tmp 83)) w := hA.val 7 _ 83 rfl (hp ⟨7, .data⟩ (by simp) rfl) rfl
                have eg : ev (.tmp 79) = .bool false := hA.val 3 _ 79 rfl (hp ⟨3, .guard⟩ (by simp) rfl) rfl
                refine ⟨_, 79, false, rfl, rfl, eg, ?_⟩
                rw [if_neg (by decide)]
                have hcc := hA.const
                clear hA hp
                exact ⟨rfl, hI⟩
              · refine Reg.StepAt.guarded (i := 9) rfl ?_
                intro L ev w hI hk hp hA
                have e4 : ev (.tmp 4) = .pointer (some ⟨xb, 0, none⟩) := hA.oldNone 4 (by kernel_rfl)
                have eg : ev (.tmp 79) = .bool false := hA.val 3 _ 79 rfl (hp ⟨3, .guard⟩ (by simp) rfl) rfl
                refine ⟨_, 79, false, rfl, rfl, eg, ?_⟩
                rw [if_neg (by decide)]
                have hcc := hA.const
                clear hA hp
                exact ⟨rfl, hI⟩
              · refine Reg.StepAt.guarded (i := 10) rfl ?_
                intro L ev w hI hk hp hA
                have e85 : (fun v _ => v = undef) (ev (.tmp 85)) w := hA.val 9 _ 85 rfl (hp ⟨9, .data⟩ (by simp) rfl) rfl
                have eg : ev (.tmp 79) = .bool false := hA.val 3 _ 79 rfl (hp ⟨3, .guard⟩ (by simp) rfl) rfl
                refine ⟨_, 79, false, rfl, rfl, eg, ?_⟩
                rw [if_neg (by decide)]
                have hcc := hA.const
                clear hA hp
                exact ⟨rfl, hI⟩
              · refine Reg.StepAt.guarded (i := 11) rfl ?_
                intro L ev w hI hk hp hA
                have e84 : (fun v _ => v = undef) (ev (.tmp 84)) w := hA.val 8 _ 84 rfl (hp ⟨8, .data⟩ (by simp) rfl) rfl
                have e86 : (fun v _ => v = undef) (ev (.tmp 86)) w := hA.val 10 _ 86 rfl (hp ⟨10, .data⟩ (by simp) rfl) rfl
                have eg : ev (.tmp 79) = .bool false := hA.val 3 _ 79 rfl (hp ⟨3, .guard⟩ (by simp) rfl) rfl
                refine ⟨_, 79, false, rfl, rfl, eg, ?_⟩
                rw [if_neg (by decide)]
                have hcc := hA.const
                clear hA hp
                exact ⟨rfl, hI⟩
              · refine Reg.StepAt.plain (i := 12) rfl ?_
                intro L ev w hI hk hp hA
                have e79 : ev (.tmp 79) = .bool false := hA.val 3 _ 79 rfl (hp ⟨3, .data⟩ (by simp) rfl) rfl
                have e87 : (fun v _ => v = undef) (ev (.tmp 87)) w := hA.val 11 _ 87 rfl (hp ⟨11, .data⟩ (by simp) rfl) rfl
                have hcc := hA.const
                clear hA hp
                refine Reg.out_value (v := .bool false) ?_ ⟨rfl, hrefl _, hI⟩
                go_simp
              intro L act wz hall hI hF
              have g76 : act.eval (.tmp 76) = .pointer (some ⟨xb, 2, none⟩) := hF.val 0 _ 76 rfl (hall 0 (by simp)) rfl
              have g77 : act.eval (.tmp 77) = .int .i64 cf := hF.val 1 _ 77 rfl (hall 1 (by simp)) rfl
              have g78 : act.eval (.tmp 78) = .bool false := hF.val 2 _ 78 rfl (hall 2 (by simp)) rfl
              have g79 : act.eval (.tmp 79) = .bool false := hF.val 3 _ 79 rfl (hall 3 (by simp)) rfl
              have g80 : (fun v _ => v = undef) (act.eval (.tmp 80)) wz := hF.val 4 _ 80 rfl (hall 4 (by simp)) rfl
              have g81 : (fun v _ => v = undef) (act.eval (.tmp 81)) wz := hF.val 5 _ 81 rfl (hall 5 (by simp)) rfl
              have g82 : (fun v _ => v = undef) (act.eval (.tmp 82)) wz := hF.val 6 _ 82 rfl (hall 6 (by simp)) rfl
              have g83 : (fun v _ => v = undef) (act.eval (.tmp 83)) wz := hF.val 7 _ 83 rfl (hall 7 (by simp)) rfl
              have g84 : (fun v _ => v = undef) (act.eval (.tmp 84)) wz := hF.val 8 _ 84 rfl (hall 8 (by simp)) rfl
              have g85 : (fun v _ => v = undef) (act.eval (.tmp 85)) wz := hF.val 9 _ 85 rfl (hall 9 (by simp)) rfl
              have g86 : (fun v _ => v = undef) (act.eval (.tmp 86)) wz := hF.val 10 _ 86 rfl (hall 10 (by simp)) rfl
              have g87 : (fun v _ => v = undef) (act.eval (.tmp 87)) wz := hF.val 11 _ 87 rfl (hall 11 (by simp)) rfl
              have g88 : act.eval (.tmp 88) = .bool false := hF.val 12 _ 88 rfl (hall 12 (by simp)) rfl
              have hact := hF.act [76, 77, 78, 79, 80, 81, 82, 83, 84, 85, 86, 87, 88] (by kernel_rfl)
              clear hF hall
              simp only [List.foldl_cons, List.foldl_nil] at hact
              rw [g76, g77, g78, g79, g88] at hact
              clear g76 g77 g78 g79 g88
              generalize act.eval (.tmp 80) = u80 at hact g80
              generalize act.eval (.tmp 81) = u81 at hact g81
              generalize act.eval (.tmp 82) = u82 at hact g82
              generalize act.eval (.tmp 83) = u83 at hact g83
              generalize act.eval (.tmp 84) = u84 at hact g84
              generalize act.eval (.tmp 85) = u85 at hact g85
              generalize act.eval (.tmp 86) = u86 at hact g86
              generalize act.eval (.tmp 87) = u87 at hact g87
              simp only [List.setIfInBounds_toArray, List.set_cons_succ, List.set_cons_zero] at hact
              subst hact
              have HZ2 := hidq (show Below wr.heap.size wr wz from HZ.out.trans ((show Below w8.heap.size w8 wz from hI).mono HZ.out.size))
              clear hI t2 t3
              go_wp2_with fail
            rotate_left
            focus
              have t2 : (cf == -1) = false := by simpa using hf2
              have t3 : (cf != -1) = true := by simpa using hf2
              obtain ⟨q, hq⟩ : ∃ q, (df == cf) = q := ⟨_, rfl⟩
              have HF2B := hidq (And.intro hf2 hq)
              clear hf2
              have hrefl : ∀ w : World, Reg.Keeps w w := Reg.Keeps.refl
              refine Reg.wp_region_props (Reg.ofList (rc15tR g xb n cap j cf df q)) Reg.Keeps (fun _ w => Reg.Keeps w8 w) (by kernel_rfl) (by kernel_rfl) (Reg.AllKept.at _ (rc15tR_kept g xb n cap j cf df q)) hrefl (Reg.Keeps.drewN (Reg.Keeps.refl _) 1) ⟨?_, ?_, ?_, ?_, ?_, ?_, ?_, ?_, ?_, ?_, ?_, ?_, ?_, trivial⟩ ?_
              · refine Reg.StepAt.plain (i := 0) rfl ?_
                intro L ev w hI hk hp hA
                have e4 : ev (.tmp 4) = .pointer (some ⟨xb, 0, none⟩) := hA.oldNone 4 (by kernel_rfl)
                have hcc := hA.const
                clear hA hp
                refine Reg.out_value (v := .pointer (some ⟨xb, 2, none⟩)) ?_ ⟨rfl, hrefl _, hI⟩
                go_simp
              · refine Reg.StepAt.plain (i := 1) rfl ?_
                intro L ev w hI hk hp hA
                have e76 : ev (.tmp 76) = .pointer (some ⟨xb, 2, none⟩) := hA.val 0 _ 76 rfl (hp ⟨0, .data⟩ (by simp) rfl) rfl
                have hcc := hA.const
                clear hA hp
                obtain ⟨p0, p1, p2, p3, p4, p5, p6, p7⟩ := FC.out w hI
                refine Reg.out_value (v := .int .i64 cf) ?_ ⟨rfl, hrefl _, hI⟩
                go_simp
              · refine Reg.StepAt.plain (i := 2) rfl ?_
                intro L ev w hI hk hp hA
                have e77 : ev (.tmp 77) = .int .i64 cf := hA.val 1 _ 77 rfl (hp ⟨1, .data⟩ (by simp) rfl) rfl
                have hcc := hA.const
                clear hA hp
                refine Reg.out_value (v := .bool true) ?_ ⟨rfl, hrefl _, hI⟩
                go_simp
              · refine Reg.StepAt.plain (i := 3) rfl ?_
                intro L ev w hI hk hp hA
                have e78 : ev (.tmp 78) = .bool true := hA.val 2 _ 78 rfl (hp ⟨2, .data⟩ (by simp) rfl) rfl
                have hcc := hA.const
                clear hA hp
                refine Reg.out_value (v := .bool true) ?_ ⟨rfl, hrefl _, hI⟩
                go_simp
              · refine Reg.StepAt.guarded (i := 4) rfl ?_
                intro L ev w hI hk hp hA
                have e0 : ev (.tmp 0) = .slice (some ⟨g, 0, none⟩) n cap := hA.oldNone 0 (by kernel_rfl)
                have eg : ev (.tmp 79) = .bool true := hA.val 3 _ 79 rfl (hp ⟨3, .guard⟩ (by simp) rfl) rfl
                refine ⟨_, 79, true, rfl, rfl, eg, ?_⟩
                rw [if_pos rfl]
                have hcc := hA.const
                clear hA hp
                refine Reg.out_value (v := .slice (some ⟨g, 0, none⟩) n cap) ?_ ⟨rfl, hrefl _, hI⟩
                go_simp
              · refine Reg.StepAt.guarded (i := 5) rfl ?_
                intro L ev w hI hk hp hA
                have e5 : ev (.tmp 5) = .int .i64 (j : Int) := hA.oldNone 5 (by kernel_rfl)
                have eg : ev (.tmp 79) = .bool true := hA.val 3 _ 79 rfl (hp ⟨3, .guard⟩ (by simp) rfl) rfl
                refine ⟨_, 79, true, rfl, rfl, eg, ?_⟩
                rw [if_pos rfl]
                have hcc := hA.const
                clear hA hp
                refine Reg.out_value (v := .int .i64 (j : Int)) ?_ ⟨rfl, hrefl _, hI⟩
                go_simp
              · refine Reg.StepAt.guarded (i := 6) rfl ?_
                intro L ev w hI hk hp hA
                have e80 : ev (.tmp 80) = .slice (some ⟨g, 0, none⟩) n cap := hA.val 4 _ 80 rfl (hp ⟨4, .data⟩ (by simp) rfl) rfl
                have e81 : ev (.tmp 81) = .int .i64 (j : Int) := hA.val 5 _ 81 rfl (hp ⟨5, .data⟩ (by simp) rfl) rfl
                have eg : ev (.tmp 79) = .bool true := hA.val 3 _ 79 rfl (hp ⟨3, .guard⟩ (by simp) rfl) rfl
                refine ⟨_, 79, true, rfl, rfl, eg, ?_⟩
                rw [if_pos rfl]
                have hcc := hA.const
                clear hA hp
                refine Reg.out_value (v := .pointer (some ⟨g, j * 3, none⟩)) ?_ ⟨rfl, hrefl _, hI⟩
                go_simp
              · refine Reg.StepAt.guarded (i := 7) rfl ?_
                intro L ev w hI hk hp hA
                have e82 : ev (.tmp 82) = .pointer (some ⟨g, j * 3, none⟩) := hA.val 6 _ 82 rfl (hp ⟨6, .data⟩ (by simp) rfl) rfl
                have eg : ev (.tmp 79) = .bool true := hA.val 3 _ 79 rfl (hp ⟨3, .guard⟩ (by simp) rfl) rfl
                refine ⟨_, 79, true, rfl, rfl, eg, ?_⟩
                rw [if_pos rfl]
                have hcc := hA.const
                clear hA hp
                refine Reg.out_value (v := .pointer (some ⟨g, j * 3 + 2, none⟩)) ?_ ⟨rfl, hrefl _, hI⟩
                go_simp
              · refine Reg.StepAt.guarded (i := 8) rfl ?_
                intro L ev w hI hk hp hA
                have e83 : ev (.tmp 83) = .pointer (some ⟨g, j * 3 + 2, none⟩) := hA.val 7 _ 83 rfl (hp ⟨7, .data⟩ (by simp) rfl) rfl
                have eg : ev (.tmp 79) = .bool true := hA.val 3 _ 79 rfl (hp ⟨3, .guard⟩ (by simp) rfl) rfl
                refine ⟨_, 79, true, rfl, rfl, eg, ?_⟩
                rw [if_pos rfl]
                have hcc := hA.const
                clear hA hp
                obtain ⟨p0, p1, p2, p3, p4, p5, p6, p7⟩ := FC.out w hI
                refine Reg.out_value (v := .int .i64 df) ?_ ⟨rfl, hrefl _, hI⟩
                go_simp
              · refine Reg.StepAt.guarded (i := 9) rfl ?_
                intro L ev w hI hk hp hA
                have e4 : ev (.tmp 4) = .pointer (some ⟨xb, 0, none⟩) := hA.oldNone 4 (by kernel_rfl)
                have eg : ev (.tmp 79) = .bool true := hA.val 3 _ 79 rfl (hp ⟨3, .guard⟩ (by simp) rfl) rfl
                refine ⟨_, 79, true, rfl, rfl, eg, ?_⟩
                rw [if_pos rfl]
                have hcc := hA.const
                clear hA hp
                refine Reg.out_value (v := .pointer (some ⟨xb, 2, none⟩)) ?_ ⟨rfl, hrefl _, hI⟩
                go_simp
              · refine Reg.StepAt.guarded (i := 10) rfl ?_
                intro L ev w hI hk hp hA
                have e85 : ev (.tmp 85) = .pointer (some ⟨xb, 2, none⟩) := hA.val 9 _ 85 rfl (hp ⟨9, .data⟩ (by simp) rfl) rfl
                have eg : ev (.tmp 79) = .bool true := hA.val 3 _ 79 rfl (hp ⟨3, .guard⟩ (by simp) rfl) rfl
                refine ⟨_, 79, true, rfl, rfl, eg, ?_⟩
                rw [if_pos rfl]
                have hcc := hA.const
                clear hA hp
                obtain ⟨p0, p1, p2, p3, p4, p5, p6, p7⟩ := FC.out w hI
                refine Reg.out_value (v := .int .i64 cf) ?_ ⟨rfl, hrefl _, hI⟩
                go_simp
              · refine Reg.StepAt.guarded (i := 11) rfl ?_
                intro L ev w hI hk hp hA
                have e84 : ev (.tmp 84) = .int .i64 df := hA.val 8 _ 84 rfl (hp ⟨8, .data⟩ (by simp) rfl) rfl
                have e86 : ev (.tmp 86) = .int .i64 cf := hA.val 10 _ 86 rfl (hp ⟨10, .data⟩ (by simp) rfl) rfl
                have eg : ev (.tmp 79) = .bool true := hA.val 3 _ 79 rfl (hp ⟨3, .guard⟩ (by simp) rfl) rfl
                refine ⟨_, 79, true, rfl, rfl, eg, ?_⟩
                rw [if_pos rfl]
                have hcc := hA.const
                clear hA hp
                refine Reg.out_value (v := .bool q) ?_ ⟨rfl, hrefl _, hI⟩
                go_simp
              · refine Reg.StepAt.plain (i := 12) rfl ?_
                intro L ev w hI hk hp hA
                have e79 : ev (.tmp 79) = .bool true := hA.val 3 _ 79 rfl (hp ⟨3, .data⟩ (by simp) rfl) rfl
                have e87 : ev (.tmp 87) = .bool q := hA.val 11 _ 87 rfl (hp ⟨11, .data⟩ (by simp) rfl) rfl
                have hcc := hA.const
                clear hA hp
                refine Reg.out_value (v := .bool q) ?_ ⟨rfl, hrefl _, hI⟩
                go_simp
              intro L act wz hall hI hF
              have g76 : act.eval (.tmp 76) = .pointer (some ⟨xb, 2, none⟩) := hF.val 0 _ 76 rfl (hall 0 (by simp)) rfl
              have g77 : act.eval (.tmp 77) = .int .i64 cf := hF.val 1 _ 77 rfl (hall 1 (by simp)) rfl
              have g78 : act.eval (.tmp 78) = .bool true := hF.val 2 _ 78 rfl (hall 2 (by simp)) rfl
              have g79 : act.eval (.tmp 79) = .bool true := hF.val 3 _ 79 rfl (hall 3 (by simp)) rfl
              have g80 : act.eval (.tmp 80) = .slice (some ⟨g, 0, none⟩) n cap := hF.val 4 _ 80 rfl (hall 4 (by simp)) rfl
              have g81 : act.eval (.tmp 81) = .int .i64 (j : Int) := hF.val 5 _ 81 rfl (hall 5 (by simp)) rfl
              have g82 : act.eval (.tmp 82) = .pointer (some ⟨g, j * 3, none⟩) := hF.val 6 _ 82 rfl (hall 6 (by simp)) rfl
              have g83 : act.eval (.tmp 83) = .pointer (some ⟨g, j * 3 + 2, none⟩) := hF.val 7 _ 83 rfl (hall 7 (by simp)) rfl
              have g84 : act.eval (.tmp 84) = .int .i64 df := hF.val 8 _ 84 rfl (hall 8 (by simp)) rfl
              have g85 : act.eval (.tmp 85) = .pointer (some ⟨xb, 2, none⟩) := hF.val 9 _ 85 rfl (hall 9 (by simp)) rfl
              have g86 : act.eval (.tmp 86) = .int .i64 cf := hF.val 10 _ 86 rfl (hall 10 (by simp)) rfl
              have g87 : act.eval (.tmp 87) = .bool q := hF.val 11 _ 87 rfl (hall 11 (by simp)) rfl
              have g88 : act.eval (.tmp 88) = .bool q := hF.val 12 _ 88 rfl (hall 12 (by simp)) rfl
              have hact := hF.act [76, 77, 78, 79, 80, 81, 82, 83, 84, 85, 86, 87, 88] (by kernel_rfl)
              clear hF hall
              simp only [List.foldl_cons, List.foldl_nil] at hact
              rw [g76, g77, g78, g79, g80, g81, g82, g83, g84, g85, g86, g87, g88] at hact
              clear g76 g77 g78 g79 g80 g81 g82 g83 g84 g85 g86 g87 g88
              simp only [List.setIfInBounds_toArray, List.set_cons_succ, List.set_cons_zero] at hact
              subst hact
              have HZ2 := hidq (show Below wr.heap.size wr wz from HZ.out.trans ((show Below w8.heap.size w8 wz from hI).mono HZ.out.size))
              clear hI t2 t3 hq
              have hqq : q = true ∨ q = false := by cases q <;> simp
              rcases hqq with rfl | rfl
              · have HE := hidq (show res = 14 ∧ Below w.heap.size w wz from ⟨HNO.out j d hjl HD.out (HRB.out.2 (.inr ⟨HF2B.out.1, by simpa using HF2B.out.2⟩)), (HLOW.out.trans (hY.out.2.mono HLOW.out.size)).trans (HZ2.out.mono (HLOW.out.trans (hY.out.2.mono HLOW.out.size)).size)⟩)
                clear HNO HYES
                go_wp2_with fail
                go_ret
                exact ⟨by rw [HE.out.1]; rfl, HE.out.2⟩
              have HB15 := hidq (show ¬ (¬ cf = -1 ∧ df = cf) from fun e => by have := HF2B.out.2; rw [e.2] at this; simp at this)
              go_wp2_with fail
            all_goals
              have HE := hidq (show (∀ (q : Nat) (d : Cl), q < j + 1 → LC[q]? = some d → ¬ rbad c d) ∧ Below W1.heap.size W1 wz from by
                obtain ⟨y1, y2⟩ := hY.out
                refine ⟨fun q d' hq hd' => ?_, y2.trans (HZ2.out.mono y2.size)⟩
                by_cases e : q = j
                · subst e
                  rw [HD.out] at hd'
                  cases hd'
                  intro hr
                  rcases HRB.out.1 hr with e | e
                  · exact HA.out e
                  · exact HB15.out e
                · exact y1 q d' (by omega) hd')
              go_roundw
              case rel => exact ⟨j + 1, by go_num, by omega, HE⟩
              case measure => simp [intOf]; omega
end Go.Proofs.YtdghgmaoamjnlaaGreat
