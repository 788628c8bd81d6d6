/-
  Layer 14: the answers that the document fixes.
  Layer 14: calls out of raw ones: contract.
-/
import Derived.Test.YtplpenimhiknnaaGreatOp6All
import Derived.Test.YtplpenimhiknnaaGreatTailAll
import Derived.Test.YtplpenimhiknnaaGreatTallyStep7All
import Derived.Test.YtplpenimhiknnaaGreatEqPtr
import Derived.BigFrame
import Derived.StillTailTactics
namespace Go.Proofs.YtplpenimhiknnaaGreat
open Go.RowKit Go.Sort

theorem busy1 (fb : Nat) : busyTo (qset (fun _ => none) 0 (some fb)) 6 = [0] := by simp [busyTo, List.range_succ, qset]
/-- The two steps of the answers that the document fixes. -/
theorem first14 : ∃ F1, tStep 1 Mem.empty (Fr.of 5 0 1 0 0) = (Mem.empty, F1, Ans.zero, false) ∧ F1.kind = 5 ∧ ∃ M2 F2, tStep 1 Mem.empty F1 = (M2, F2, ⟨true, 0, 0, 0⟩, true) := ⟨_, rfl, rfl, _, _, rfl⟩
theorem frAt_new14 {w : World} {fb : Nat} {F : Fr} (h : BoxAt w fb (F.l none 0 none 0)) (h0 : F.c0.L = []) (h1 : F.c1.L = []) : FrAt w fb (fun k => k = fb) F :=
  ⟨rfl, fun k e => by rw [e]; exact h.lt, none, 0, none, 0, h, by rw [h0]; exact SlAt.nil _ _, by rw [h1]; exact SlAt.nil _ _, (fun j hj => by obtain ⟨y, hy, _⟩ := hj; cases hy), (fun j hj => by obtain ⟨y, hy, _⟩ := hj; cases hy)⟩

/-- Appending where a guard says yes. -/
theorem wpList_slW {P : Program} {k : Nat} {T E : TypeId} (hp : PlainK P k T E) (w : World) {ops : Array Oper} {rest : List Oper} {o : Oper} {a : Act} {Q : Exit → Act → World → Prop}
    (hw : Region.wanted o (yielded ops a.tmps) = true) (s x : Operand) (hop : o.op = Op.call { callee := Callee.builtin Builtin.append, args := #[s, x], argTypes := #[T, T] })
    (b : Option Addr) (cap n : Nat) (l : List Value) (hs : a.eval s = .slice b n cap) (hF : SlAt k w b cap n l) (xv : Value) (hx : a.eval x = xv) (m : Nat) (ys : List Value)
    (hsrc : Src P k T xv m ys w) (hm : 0 < m) (hb : n + m ≤ 1099511627776)
    (hK : ∀ g' cap' w', Flat k w' g' cap' (n + m) (l ++ ys) → But (inB b) w w' → (inB b g' ∨ w.heap.size ≤ g') → wpList P ops Q rest (a.put o.dst (.slice (some ⟨g', 0, none⟩) (n + m) cap')) w') : wpList P ops Q (o :: rest) a w := by
  refine wpList_step fun K hK' => ?_
  rw [if_pos hw]
  obtain ⟨g', cap', w', hrun, r1, r2, r3⟩ := sl_append hp o.type w b cap n l hF xv m ys hsrc hm hb
  unfold Oper.wp
  simp [execOp, hop, resolve, invoke, builtin, hs, hx, hrun, Result.andThen]
  exact hK' _ _ (hK g' cap' w' r1 r2 r3)

set_option maxRecDepth 20000 in
set_option maxHeartbeats 8000000 in
theorem awake14_any (w : World) : Calls Tryz.prog 45 #[] w fun e w' => e = .returned (.bool true) ∧ Below w.heap.size w w' := by
  have hN := new13_any _ 3 1 0 (fun w => machine3_any 1 w) w
  have hsf := run_store_flt (P := Tryz.prog)
  have hpe := run_neq_engine
  go_enter Tryz.func45, Tryz.ntmps45
  go_wp2_with fail
  refine hN.mono ?_
  rintro e w1 ⟨hb1, _, hok⟩
  obtain ⟨T, v, eb, mb, L, wm, rfl, hmb, hL, hLe, hwm, hM, hE, ⟨rfl, hK⟩, _⟩ := hok rfl
  have hv := hK rfl
  subst hv
  have H1 := hidq (And.intro hb1 (And.intro hmb (And.intro (show mb < eb by omega) (And.intro hM hE))))
  clear hb1 hok hmb hL hLe hwm hM hE hK hN
  go_wp2_with fail
  refine (of14_any eb _).mono ?_
  rintro e w2 ⟨rfl, hR, hb2⟩
  obtain ⟨rb, hrb⟩ : ∃ rb, w1.heap.size = rb := ⟨_, rfl⟩
  rw [hrb] at hR ⊢
  obtain ⟨hb1, hmb, hme, hM, hE⟩ := H1.out
  have hE2 := hE.below hb2
  have hM2 := hM.below hb2
  have hrbe : ¬ RK rb none [] eb := by
    rintro (e | ⟨x, hx, _⟩ | ⟨p, hp, _⟩)
    · have := hE.lt; omega
    · cases hx
    · cases hp
  have hB := hidq (rbegin_any rb eb none 0 [] (fun _ => none) 3 1 213 (.agg #[.int .i64 1]) mb (fun _ => none) false 0 0 5 0 1 0 0 w2 hE2 hR hrbe (fun j hj e => e) (by decide))
  have r0 := (hR.box.get 0 _ rfl).1
  have hrl := hR.box.lt
  have H2 := hidq (And.intro hR (And.intro hE2 (And.intro hM2 (And.intro (hb1.trans (hb2.mono hb1.size)) (And.intro hmb (And.intro hme (And.intro hrb (And.intro hE.lt (show w.heap.size ≤ rb by have := hb1.size; omega)))))))))
  clear hR hE2 hM2 hrbe hb1 hmb hme hM hE hb2 H1 hrb
  go_wp2_with fail
  refine hB.out.mono ?_
  rintro e w3 ⟨rfl, _, hok⟩
  obtain ⟨_, _, _, fb, cb, a3, cap3, hfb, hcb, hfc, hfa, hF3, hE3, hR3, hain, hb3⟩ := hok (by decide)
  clear hB hok r0 hrl
  rw [show begE 3 false (fun _ => none) 0 5 1 = 0 by decide]
  rw [show ((0 : Int)).toNat = 0 from rfl] at hE3 hR3
  obtain ⟨hR, hE2, hM2, hlow, hmb, hme, hrb, hel, hwrb⟩ := H2.out
  have hnmb : ¬ (mb = eb ∨ RK rb none [] mb) := by
    rintro (e | e | ⟨x, hx, _⟩ | ⟨p, hp, _⟩)
    · omega
    · omega
    · cases hx
    · cases hp
  have hM3 := hM2.but hb3 (fun k hk e => hnmb (by have : k = mb := hk; subst this; exact e))
  have hCs : [] ++ [(cb, (⟨0, 5, 0, 1, 0, 0, 0, -1, Ans.zero⟩ : Cl))] = [(cb, ⟨0, 5, 0, 1, 0, 0, 0, -1, Ans.zero⟩)] := rfl
  rw [hCs] at hR3
  obtain ⟨C0, hC0⟩ : ∃ C0 : Cl, C0 = ⟨0, 5, 0, 1, 0, 0, 0, -1, Ans.zero⟩ := ⟨_, rfl⟩
  rw [← hC0] at hR3
  have HC0 := hidq hC0
  obtain ⟨Q, hQ⟩ : ∃ Q, qset (fun _ => none) 0 (some fb) = Q := ⟨_, rfl⟩
  obtain ⟨U, hU⟩ : ∃ U, qset (fun _ => none) 0 (some cb) = U := ⟨_, rfl⟩
  have hQ0 : Q 0 = some fb := by rw [← hQ]; rfl
  have hU0 : U 0 = some cb := by rw [← hU]; rfl
  have hQb : (busyTo Q 6)[(into 0 (busyTo Q 6).length).toNat]? = some 0 := by rw [← hQ, busy1]; rfl
  rw [hQ] at hE3
  rw [hU] at hR3
  have hFr := frAt_new14 hF3 rfl rfl
  obtain ⟨F1, hst1, hk1, M2, F2, hst2⟩ := first14
  have hs3 := hb3.size
  have hml := hM2.lt mb rfl
  have hn1 : ∀ k, RK rb a3 [(cb, C0)] k → ¬ (k = mb ∨ k = fb ∨ k = eb) := by
    have hme' : mb < w2.heap.size := hml
    have hel2 := hE2.lt
    have hrl2 := hR.box.lt
    rintro k (e | e | ⟨p, hp, e⟩)
    · subst e
      rintro (q | q | q)
      · exact hnmb (.inr (.inl q.symm))
      · omega
      · omega
    · rcases hain k e with ⟨x, hx, _⟩ | q
      · cases hx
      · rintro (s | s | s)
        · omega
        · subst s; exact hfa e
        · omega
    · rw [List.mem_singleton] at hp
      subst hp
      have e' : cb = k := e
      rintro (s | s | s) <;> omega
  have hP1 := fun W (hW : Below w3.heap.size w3 W) => pickT_any 1 eb 3 1 mb Q false 0 0 0 fb (fun k => k = mb) (fun k => k = fb) (tStep 1 Mem.empty (Fr.of 5 0 1 0 0)) W (hE3.below hW) hQb hQ0 (by decide)
    (fun k hk => by have := hM3.lt mb rfl; have := hF3.lt; have := hW.size; rcases hk with (e : k = mb) | (e : k = fb) <;> omega) (fun e => by have := hE2.lt; rcases e with (e : eb = mb) | (e : eb = fb) <;> omega) ⟨_, _, _, _, _, (hF3.below hW)⟩
    (fun W' hW' => tstep_is 1 (by decide) W' mb fb (fun k => k = mb) (fun k => k = fb) Mem.empty (Fr.of 5 0 1 0 0) ((hM3.below hW).below hW') ((hFr.below hW).below hW') (fun k hk e => by have : k = mb := hk; have : k = fb := e; omega) (.inl rfl) (by decide))
  have hRP1 := hidq (rpick_any rb eb a3 cap3 [(cb, C0)] U 3 1 213 (.agg #[.int .i64 1]) mb Q false 0 0 0 fb (fun k => k = mb) (fun k => k = fb) (tStep 1 Mem.empty (Fr.of 5 0 1 0 0)) 0 cb C0 w3 (by decide) (by decide)
    (fun k hk => by have := hM3.lt mb rfl; have := hF3.lt; rcases hk with (e : k = mb) | (e : k = fb) <;> omega) hE3.lt hR3 (fun k hk e => hn1 k hk (by rcases e with (e : k = mb) | (e : k = fb) | e; exact .inl e; exact .inr (.inl e); exact .inr (.inr e))) (fun e => by rw [hst1] at e; cases e) hP1)
  rw [hst1] at hRP1
  have hlow3 : Below w.heap.size w w3 := hlow.trans (hb3.below hlow.size (fun k e => by
    rcases e with e | e | ⟨x, hx, _⟩ | ⟨p, hp, _⟩
    · omega
    · omega
    · cases hx
    · cases hp))
  have hRlow : ∀ k, RK rb a3 [(cb, C0)] k → w.heap.size ≤ k := by
    have hz := hlow.size
    rintro k (e | e | ⟨p, hp, e⟩)
    · omega
    · rcases hain k e with ⟨x, hx, _⟩ | q
      · cases hx
      · omega
    · rw [List.mem_singleton] at hp
      subst hp
      have e' : cb = k := e
      omega
  have H3 := hidq (And.intro hlow3 (And.intro hQb (And.intro hQ0 (And.intro hU0 (And.intro hk1 (And.intro hst2 (And.intro hn1 (And.intro hmb (And.intro hme (And.intro hwrb (And.intro hfb (And.intro hcb (And.intro hE2.lt (And.intro hb3.size (And.intro hQ (And.intro hR3.lt hRlow))))))))))))))))
  clear hRlow hQ hU hQ0 hU0 hQb hFr hst1 hk1 hst2 hs3 hml hn1 hP1 hlow3 hR hE2 hM2 hlow hmb hme hrb hel hwrb hnmb hM3 hF3 hE3 hR3 hain hb3 H2 hfb hcb hfc hfa hC0 hCs
  go_wp2_with fail
  refine hRP1.out.mono ?_
  rintro e w4 ⟨rfl, hE4, hR4, O4, P4, hM4, hF4, hd4, hO4, hP4, hb4⟩
  dsimp only at hE4 hR4 hM4 hF4 ⊢
  rw [if_neg (by decide)] at hE4 hR4
  unfold csAfter at hR4
  rw [if_neg (by decide)] at hR4
  obtain ⟨hlow3, hQb, hQ0, hU0, hk1, hst2, hn1, hmb, hme, hwrb, hfb, hcb, hel2, hs23, hQ, hRlt, hRlow⟩ := H3.out
  have hs34 := hb4.size
  have hOeb : ¬ (O4 eb ∨ P4 eb) := fun e => by
    rcases e with e | e
    · rcases hO4 eb e with (q : eb = mb) | q <;> omega
    · rcases hP4 eb e with (q : eb = fb) | q <;> omega
  have hlt4 : ∀ k, O4 k ∨ P4 k → k < w4.heap.size := fun k hk => hk.elim (hM4.lt k) (hF4.lt k)
  have hn2 : ∀ k, RK rb a3 [(cb, C0)] k → ¬ (O4 k ∨ P4 k ∨ k = eb) := fun k hk e => by
    have h1 := hRlt k hk
    rcases e with e | e | e
    · rcases hO4 k e with (q : k = mb) | q
      · exact hn1 k hk (.inl q)
      · omega
    · rcases hP4 k e with (q : k = fb) | q
      · exact hn1 k hk (.inr (.inl q))
      · omega
    · exact hn1 k hk (.inr (.inr e))
  have hP2 := fun W (hW : Below w4.heap.size w4 W) => pickT_any 1 eb 3 1 mb Q false 1 0 0 fb O4 P4 (tStep 1 Mem.empty F1) W (hE4.below hW) hQb hQ0 (by decide)
    (fun k hk => Nat.lt_of_lt_of_le (hlt4 k hk) hW.size) hOeb (by obtain ⟨a0, k0, a1, k1, hB, _⟩ := (hF4.below hW).box; exact ⟨a0, k0, a1, k1, F1, hB⟩)
    (fun W' hW' => tstep_is 1 (by decide) W' mb fb O4 P4 Mem.empty F1 ((hM4.below hW).below hW') ((hF4.below hW).below hW') hd4 (.inl hk1) (by decide))
  have hRP2 := hidq (rpick_any rb eb a3 cap3 [(cb, C0)] U 3 1 213 (.agg #[.int .i64 1]) mb Q false 1 0 0 fb O4 P4 (tStep 1 Mem.empty F1) 0 cb C0 w4 (by decide) (by decide) hlt4 hE4.lt hR4 hn2 (fun e => ⟨rfl, hU0⟩) hP2)
  rw [hst2] at hRP2
  have hlow4 : Below w.heap.size w w4 := hlow3.trans (hb4.below hlow3.size (fun k e => by
    have := hlow3.size
    rcases e with (e : k = mb) | (e : k = fb) | e | e
    · omega
    · omega
    · omega
    · exact hRlow k e))
  have hlow45 : ∀ k, O4 k ∨ P4 k ∨ k = eb ∨ RK rb a3 [(cb, C0)] k → w.heap.size ≤ k := fun k e => by
    have := hlow3.size
    rcases e with e | e | e | e
    · rcases hO4 k e with (q : k = mb) | q <;> omega
    · rcases hP4 k e with (q : k = fb) | q <;> omega
    · omega
    · exact hRlow k e
  have H4 := hidq (And.intro hlow4 hlow45)
  clear hlow45 hRlow hlow3 hQb hQ0 hU0 hk1 hst2 hn1 hmb hme hwrb hfb hcb hel2 hs23 hQ hRlt hs34 hOeb hlt4 hn2 hP2 hlow4 hE4 hR4 hM4 hF4 hd4 hO4 hP4 hb4
  go_wp2_with fail
  refine hRP2.out.mono ?_
  rintro e w5 ⟨rfl, hE5, hR5, O5, P5, hM5, hF5, hd5, hO5, hP5, hb5⟩
  dsimp only at hR5 ⊢
  rw [if_pos rfl] at hR5
  unfold csAfter at hR5
  rw [if_pos rfl] at hR5
  obtain ⟨C1, hC1⟩ : ∃ C1 : Cl, ({ C0 with fin := ((1 : Nat) : Int), ans := ⟨true, 0, 0, 0⟩ } : Cl) = C1 := ⟨_, rfl⟩
  rw [hC1] at hR5
  have hR6 : RecAt w5 rb eb a3 cap3 [(cb, C1)] (qset U 0 none) := hR5
  have hCv : C1 = ⟨0, 5, 0, 1, 0, 0, 0, 1, ⟨true, 0, 0, 0⟩⟩ := by rw [← hC1, HC0.out]; rfl
  subst hCv
  have hCA := hidq (calls14_any rb eb a3 cap3 [(cb, ⟨0, 5, 0, 1, 0, 0, 0, 1, ⟨true, 0, 0, 0⟩⟩)] (qset U 0 none) w5 hR6 (by show 1 ≤ 1000; decide))
  have hlow5 : Below w.heap.size w w5 := H4.out.1.trans (hb5.below H4.out.1.size H4.out.2)
  have H5 := hidq hlow5
  clear hE5 hR5 hM5 hF5 hd5 hO5 hP5 hb5 hR6 hlow5 hRP1 hRP2 H3 H4 HC0
  go_wp2_with fail
  refine hCA.out.mono ?_
  rintro e w6 ⟨a6, cap6, rfl, hS6, hin6, hb6⟩
  have hS6' : SlAt 12 w6 a6 cap6 1 [.int .i64 0, .int .i64 5, .float .f64 0, .int .i64 1, .int .i64 0, .int .i64 0, .int .i64 0, .int .i64 1, .bool true, .float .f64 0, .int .i64 0, .int .i64 0] := hS6
  have hCA2 := fun a c w h => check14_any [⟨0, 5, 0, 1, 0, 0, 0, 1, ⟨true, 0, 0, 0⟩⟩, ⟨0, 5, 0, 1, 0, 0, 0, 1, ⟨true, 0, 0, 0⟩⟩] a c 2 w h rfl (by decide)
  rw [show hchk [⟨0, 5, 0, 1, 0, 0, 0, 1, ⟨true, 0, 0, 0⟩⟩, ⟨0, 5, 0, 1, 0, 0, 0, 1, ⟨true, 0, 0, 0⟩⟩] 0 (fun _ => none) = 14 by decide] at hCA2
  have HSL := hidq hS6'
  have HC2 := hidq hCA2
  obtain ⟨g, rfl, hgl, hg0⟩ := hS6'.cell (t := 0) (u := .int .i64 0) rfl
  obtain ⟨_, q1, _, hg1⟩ := hS6'.cell (t := 1) (u := .int .i64 5) rfl
  cases q1
  obtain ⟨_, q2, _, hg2⟩ := hS6'.cell (t := 2) (u := .float .f64 0) rfl
  cases q2
  obtain ⟨_, q3, _, hg3⟩ := hS6'.cell (t := 3) (u := .int .i64 1) rfl
  cases q3
  obtain ⟨_, q4, _, hg4⟩ := hS6'.cell (t := 4) (u := .int .i64 0) rfl
  cases q4
  obtain ⟨_, q5, _, hg5⟩ := hS6'.cell (t := 5) (u := .int .i64 0) rfl
  cases q5
  obtain ⟨_, q6, _, hg6⟩ := hS6'.cell (t := 6) (u := .int .i64 0) rfl
  cases q6
  obtain ⟨_, q7, _, hg7⟩ := hS6'.cell (t := 7) (u := .int .i64 1) rfl
  cases q7
  obtain ⟨_, q8, _, hg8⟩ := hS6'.cell (t := 8) (u := .bool true) rfl
  cases q8
  obtain ⟨_, q9, _, hg9⟩ := hS6'.cell (t := 9) (u := .float .f64 0) rfl
  cases q9
  obtain ⟨_, q10, _, hg10⟩ := hS6'.cell (t := 10) (u := .int .i64 0) rfl
  cases q10
  obtain ⟨_, q11, _, hg11⟩ := hS6'.cell (t := 11) (u := .int .i64 0) rfl
  cases q11
  have HGW := hidq (show ∀ k, inB (some ⟨g, 0, none⟩) k → w.heap.size ≤ k from fun k hk => by have h1 := hin6 k hk; have h2 := H5.out.size; omega)
  have hcl6 : 1 ≤ cap6 := hS6'.le
  have H6 := hidq (H5.out.trans (hb6.mono H5.out.size))
  clear hS6 hS6' hin6 hb6 hCA2 H5
  go_wp2_with (at_builtin; (refine wpList_slW plainCl _ rfl (.tmp 58) (.tmp 62) rfl (some ⟨g, 0, none⟩) cap6 1 [.int .i64 0, .int .i64 5, .float .f64 0, .int .i64 1, .int .i64 0, .int .i64 0, .int .i64 0, .int .i64 1, .bool true, .float .f64 0, .int .i64 0, .int .i64 0] rfl (HSL.out.below ((Below.refl _ _).alloc (Nat.le_refl _) _)) _ rfl 1 [.int .i64 0, .int .i64 5, .float .f64 0, .int .i64 1, .int .i64 0, .int .i64 0, .int .i64 0, .int .i64 1, .bool true, .float .f64 0, .int .i64 0, .int .i64 0] (src_new 12 _ Tryz.underlying104 w6.heap.size [.int .i64 0, .int .i64 5, .float .f64 0, .int .i64 1, .int .i64 0, .int .i64 0, .int .i64 0, .int .i64 1, .bool true, .float .f64 0, .int .i64 0, .int .i64 0] rfl (fun j u hu => by rw [World.cell?_alloc_new, List.getElem?_toArray]; exact hu) (cl_one ⟨0, 5, 0, 1, 0, 0, 0, 1, ⟨true, 0, 0, 0⟩⟩)) (by omega) (by decide) ?_); intro g2 c2 w7 hF2 hb2 hg2)
  have hSZ : SlAt 12 w7 (some ⟨g2, 0, none⟩) c2 2 (flatCl [⟨0, 5, 0, 1, 0, 0, 0, 1, ⟨true, 0, 0, 0⟩⟩, ⟨0, 5, 0, 1, 0, 0, 0, 1, ⟨true, 0, 0, 0⟩⟩]) := .inr ⟨g2, rfl, hF2⟩
  have hgw : ∀ k, inB (some ⟨g, 0, none⟩) k → w.heap.size ≤ k := HGW.out
  have h7 : Below w.heap.size w w7 := (H6.out.alloc H6.out.size _).trans (hb2.below (by have := H6.out.size; simp; omega) hgw)
  have H7 := hidq h7
  refine (HC2.out _ _ _ hSZ).mono ?_
  clear hSZ hgw h7 hF2 hb2 HC2 HSL H6
  rintro e w8 ⟨rfl, hb8⟩
  have H8 := hidq (H7.out.trans (hb8.mono H7.out.size))
  clear hb8 H7
  go_wp2_with fail
  go_ret
  exact ⟨rfl, H8.out⟩
end Go.Proofs.YtplpenimhiknnaaGreat

namespace Go.Proofs.YtplpenimhiknnaaGreat
open Go.RowKit Go.Sort

/-- Raw calls in a row: thread, begin, end. -/
def RawIn (w : World) (a : Option Addr) (n : Nat) (R : Nat → Int × Int × Int) : Prop :=
  ∀ i, i < n → ∃ b off, a = some ⟨b, off, none⟩ ∧ b < w.heap.size ∧ w.cell? ⟨b, off + i * 3, none⟩ = some (.int .i64 (R i).1) ∧ w.cell? ⟨b, off + i * 3 + 1, none⟩ = some (.int .i64 (R i).2.1) ∧ w.cell? ⟨b, off + i * 3 + 2, none⟩ = some (.int .i64 (R i).2.2)
theorem RawIn.below {w w' : World} {a : Option Addr} {n : Nat} {R : Nat → Int × Int × Int} (h : RawIn w a n R) (hb : Below w.heap.size w w') : RawIn w' a n R := fun i hi => by
  obtain ⟨b, off, h1, h2, h3, h4, h5⟩ := h i hi
  exact ⟨b, off, h1, Nat.lt_of_lt_of_le h2 hb.size, by rw [hb.cell (p := ⟨b, off + i * 3, none⟩) h2]; exact h3, by rw [hb.cell (p := ⟨b, off + i * 3 + 1, none⟩) h2]; exact h4, by rw [hb.cell (p := ⟨b, off + i * 3 + 2, none⟩) h2]; exact h5⟩
def mkCl (r : Int × Int × Int) : Cl := ⟨r.1, 0, 0, 0, 0, 0, r.2.1, r.2.2, Ans.zero⟩
def mkCls (R : Nat → Int × Int × Int) (k : Nat) : List Cl := (List.range k).map (fun i => mkCl (R i))
theorem mkCls_len (R : Nat → Int × Int × Int) (k : Nat) : (mkCls R k).length = k := by simp [mkCls]
theorem mkCls_succ (R : Nat → Int × Int × Int) (k : Nat) : mkCls R (k + 1) = mkCls R k ++ [mkCl (R k)] := by simp [mkCls, List.range_succ]

set_option maxRecDepth 20000 in
set_option maxHeartbeats 4000000 in
theorem mcalls_any (a : Option Addr) (cap n m : Nat) (R : Nat → Int × Int × Int) (w : World) (h : RawIn w a n R) (hm : m = min n 20) :
    Calls Tryz.prog 51 #[.slice a n cap] w (CallsEnd (mkCls R m) w) := by
  have HH := hidq h
  have HM := hidq hm
  clear h
  go_enter Tryz.func51, Tryz.ntmps51
  go_wp2_with fail
  have hm20 : m ≤ 20 := by omega
  go_loopw [3, 4] (fun s3 s4 wr => ∃ (k : Nat) (a2 : Option Addr) (cap2 : Nat), s3 = .slice a2 k cap2 ∧ s4 = .int .i64 (k : Int) ∧ k ≤ m ∧ Hid (SlAt 12 wr a2 cap2 k (flatCl (mkCls R k)) ∧ (∀ j, inB a2 j → w.heap.size ≤ j) ∧ Below w.heap.size w wr)) (fun _ s4 _ => m - (intOf s4).toNat)
  case atStart =>
    refine ⟨0, some ⟨w.heap.size, 0, none⟩, 0, rfl, rfl, by omega, .inr ⟨w.heap.size, rfl, ?_⟩, ?_, (Below.refl _ _).alloc (Nat.le_refl _) _⟩
    · exact Flat.new w [] _ 12 0 rfl (Nat.zero_le _) (fun u hu => by cases hu)
    · rintro j ⟨x, hx, rfl⟩
      cases hx
      exact Nat.le_refl _
  case round =>
    obtain ⟨k, a2, cap2, rfl, rfl, hk, hX⟩ := hrel
    by_cases hlt : k < m
    · have hm := HM.out
      have hkn : k < n := by omega
      have hkI : (k : Int) < (n : Int) := by omega
      have h20 : k < 20 := by omega
      have h20I : (k : Int) < 20 := by omega
      obtain ⟨b, off, rfl, hbl, c0, c1, c2⟩ := (HH.out.below hX.out.2.2) k hkn
      have HSL := hidq hX.out.1
      obtain ⟨t0, ht0⟩ : ∃ t0, (R k).1 = t0 := ⟨_, rfl⟩
      obtain ⟨t1, ht1⟩ : ∃ t1, (R k).2.1 = t1 := ⟨_, rfl⟩
      obtain ⟨t2, ht2⟩ : ∃ t2, (R k).2.2 = t2 := ⟨_, rfl⟩
      rw [ht0] at c0
      rw [ht1] at c1
      rw [ht2] at c2
      have HC := hidq (show mkCls R (k + 1) = mkCls R k ++ [⟨t0, 0, 0, 0, 0, 0, t1, t2, Ans.zero⟩] from by rw [mkCls_succ]; unfold mkCl; rw [ht0, ht1, ht2])
      clear ht0 ht1 ht2
      have hba : Below wr.heap.size wr ((wr.alloc (.cells #[.int .i64 t0, .int .i64 0, .float .f64 0, .int .i64 0, .int .i64 0, .int .i64 0, .int .i64 t1, .int .i64 t2, .bool false, .float .f64 0, .int .i64 0, .int .i64 0] 106)).drew) := ((Below.refl _ _).alloc (Nat.le_refl _) _).drew
      obtain ⟨g2, q2, w2, hrun, hF2, hb2, hg2⟩ := sl_append plainCl 104 ((wr.alloc (.cells #[.int .i64 t0, .int .i64 0, .float .f64 0, .int .i64 0, .int .i64 0, .int .i64 0, .int .i64 t1, .int .i64 t2, .bool false, .float .f64 0, .int .i64 0, .int .i64 0] 106)).drew) a2 cap2 k _ (HSL.out.below hba) (.slice (some ⟨wr.heap.size, 0, none⟩) 1 1) 1 [.int .i64 t0, .int .i64 0, .float .f64 0, .int .i64 0, .int .i64 0, .int .i64 0, .int .i64 t1, .int .i64 t2, .bool false, .float .f64 0, .int .i64 0, .int .i64 0]
        (src_new 12 _ Tryz.underlying104 wr.heap.size [.int .i64 t0, .int .i64 0, .float .f64 0, .int .i64 0, .int .i64 0, .int .i64 0, .int .i64 t1, .int .i64 t2, .bool false, .float .f64 0, .int .i64 0, .int .i64 0] rfl (fun j u hu => by rw [show ((wr.alloc (.cells #[.int .i64 t0, .int .i64 0, .float .f64 0, .int .i64 0, .int .i64 0, .int .i64 0, .int .i64 t1, .int .i64 t2, .bool false, .float .f64 0, .int .i64 0, .int .i64 0] 106)).drew).cell? ⟨wr.heap.size, j, none⟩ = (wr.alloc (.cells #[.int .i64 t0, .int .i64 0, .float .f64 0, .int .i64 0, .int .i64 0, .int .i64 0, .int .i64 t1, .int .i64 t2, .bool false, .float .f64 0, .int .i64 0, .int .i64 0] 106)).cell? ⟨wr.heap.size, j, none⟩ from rfl, World.cell?_alloc_new, List.getElem?_toArray]; exact hu) (cl_one ⟨t0, 0, 0, 0, 0, 0, t1, t2, Ans.zero⟩)) (by omega) (by omega)
      have HR : Hid (∀ _ : Unit, (Builtin.append_ #[104, 104] 104 #[.slice a2 k cap2, .slice (some ⟨wr.heap.size, 0, none⟩) 1 1]).run Tryz.prog ((wr.alloc (.cells #[.int .i64 t0, .int .i64 0, .float .f64 0, .int .i64 0, .int .i64 0, .int .i64 0, .int .i64 t1, .int .i64 t2, .bool false, .float .f64 0, .int .i64 0, .int .i64 0] 106)).drew) = .ok (.slice (some ⟨g2, 0, none⟩) (k + 1) q2) w2) := fun _ => hrun
      have HE := hidq (show SlAt 12 w2 (some ⟨g2, 0, none⟩) q2 (k + 1) (flatCl (mkCls R (k + 1))) ∧ (∀ j, inB (some ⟨g2, 0, none⟩) j → w.heap.size ≤ j) ∧ Below w.heap.size w w2 from by
        obtain ⟨h1, h2, h3⟩ := hX.out
        refine ⟨.inr ⟨g2, rfl, by rw [HC.out, flatCl_snoc]; exact hF2⟩, ?_, ?_⟩
        · rintro j ⟨x, hx, rfl⟩
          cases hx
          rcases hg2 with e | e
          · exact h2 _ e
          · have := h3.size; have h9 := hba.size; show w.heap.size ≤ g2; omega
        · exact (h3.trans (hba.mono h3.size)).trans (hb2.below (by have := h3.size; have := hba.size; omega) (fun j e => h2 j e)))
      clear hrun hF2 hb2 hg2 hba
      go_wp2_with fail
      go_region_law (refine step_append rfl (.tmp 16) (.tmp 33) 104 rfl _ _ (by simp [Act.eval]) (by simp [Act.eval]) _ _ (HR ()) ?_)
      all_goals go_wp2
      all_goals (refine ⟨⟨k + 1, some ⟨g2, 0, none⟩, q2, rfl, congrArg _ (by omega), by omega, HE.out⟩, by simp [intOf]; omega⟩)
    · have hkm : k = m := by omega
      have hm := HM.out
      have HE := hidq (show CallsEnd (mkCls R m) w (.returned (.slice a2 k cap2)) wr from by
        obtain ⟨h1, h2, h3⟩ := hX.out
        rw [hkm] at h1
        exact ⟨a2, cap2, by rw [hkm, mkCls_len], by rw [mkCls_len]; exact h1, h2, h3⟩)
      by_cases hkn : k < n
      · have h20 : decide ((k : Int) < 20) = false := decide_eq_false (by omega)
        have h20' : decide (k < 20) = false := decide_eq_false (by omega)
        have hkI : (k : Int) < (n : Int) := by omega
        clear hX hkm
        go_wp2_with fail
        go_ret
        exact HE.out
      · have hd1 : decide ((k : Int) < (n : Int)) = false := decide_eq_false (by omega)
        have hd2 : decide (k < n) = false := decide_eq_false hkn
        clear hX hkm
        go_wp2_with fail
        go_ret
        exact HE.out
end Go.Proofs.YtplpenimhiknnaaGreat
