/-
  Layer 14: the answers that the document fixes.
  Layer 13, 14: a pick where nobody is busy: contracts.
  Layer 14: a pick where nobody is busy: contract.
  Layer 14: a recorder of a Tally of one shard at which threads begin Sums, one behind the other.
  Layer 14: one of the threads that are at a Sum does its step: what is written down behind it.
  Layer 14's law of calls that were asked for: the call returns true.
-/
import Derived.Test.YtplpenimhiknnaaGreatOp6All
import Derived.Test.YtplpenimhiknnaaGreatTailAll
import Derived.Test.YtplpenimhiknnaaGreatTallyStep7All
import Derived.Test.YtplpenimhiknnaaGreatEqPtr
import Derived.BigFrame
import Derived.Test.YtplpenimhiknnaaGreatGhostAll
namespace Go.Proofs.YtplpenimhiknnaaGreat
open Go.RowKit Go.Sort

theorem busy1 (fb : Nat) : busyTo (qset (fun _ => none) 0 (some fb)) 6 = [0] := by simp [busyTo, List.range_succ, qset]
/-- The two steps of the answers that the document fixes. -/
theorem first14 : ∃ F1, tStep 1 Mem.empty (Fr.of 5 0 1 0 0) = (Mem.empty, F1, Ans.zero, false) ∧ F1.kind = 5 ∧ ∃ M2 F2, tStep 1 Mem.empty F1 = (M2, F2, ⟨true, 0, 0, 0⟩, true) := ⟨_, rfl, rfl, _, _, rfl⟩
theorem frAt_new14 {w : World} {fb : Nat} {F : Fr} (h : BoxAt w fb (F.l none 0 none 0)) (h0 : F.c0.L = []) (h1 : F.c1.L = []) : FrAt w fb (fun k => k = fb) F :=
  ⟨rfl, fun k e => by rw [e]; exact h.lt, none, 0, none, 0, h, by rw [h0]; exact SlAt.nil _ _, by rw [h1]; exact SlAt.nil _ _, (fun j hj => by obtain ⟨y, hy, _⟩ := hj; cases hy), (fun j hj => by obtain ⟨y, hy, _⟩ := hj; cases hy)⟩

/-- Appending where a guard says yes. -/
theorem wpList_slW {P : Program} {k : Nat} {T E : TypeId} (hp : PlainK P k T E) (w : World) {ops : Array Oper} {rest : List Oper} {o : Oper} {a : Act} {Q : Exit → Act → World → Prop}
    (hw : Region.wanted o (yielded ops a.tmps) = true) (s x : Operand) (hop : o.op = Op.call { callee := Callee.builtin Builtin.append, args := #[s, x], argTypes := #[T, T] })
    (b : Option Addr) (cap n : Nat) (l : List Value) (hs : a.eval s = .slice b n cap) (hF : SlAt k w b cap n l) (xv : Value) (hx : a.eval x = xv) (m : Nat) (ys : List Value)
    (hsrc : Src P k T xv m ys w) (hm : 0 < m) (hb : n + m ≤ 1099511627776)
    (hK : ∀ g' cap' w', Flat k w' g' cap' (n + m) (l ++ ys) → But (inB b) w w' → (inB b g' ∨ w.heap.size ≤ g') → wpList P ops Q rest (a.put o.dst (.slice (some ⟨g', 0, none⟩) (n + m) cap')) w') : wpList P ops Q (o :: rest) a w := by
  refine wpList_step fun K hK' => ?_
  rw [if_pos hw]
  obtain ⟨g', cap', w', hrun, r1, r2, r3⟩ := sl_append hp o.type w b cap n l hF xv m ys hsrc hm hb
  unfold Oper.wp
  simp [execOp, hop, resolve, invoke, builtin, hs, hx, hrun, Result.andThen]
  exact hK' _ _ (hK g' cap' w' r1 r2 r3)

set_option maxRecDepth 20000 in
set_option maxHeartbeats 8000000 in
theorem awake14_any (w : World) : Calls Tryz.prog 45 #[] w fun e w' => e = .returned (.bool true) ∧ Below w.heap.size w w' := by
  have hN := new13_any _ 3 1 0 (fun w => machine3_any 1 w) w
  have hsf := run_store_flt (P := Tryz.prog)
  have hpe := run_neq_engine
  go_enter Tryz.func45, Tryz.ntmps45
  go_wp2_with fail
  refine hN.mono ?_
  rintro e w1 ⟨hb1, _, hok⟩
  obtain ⟨T, v, eb, mb, L, wm, rfl, hmb, hL, hLe, hwm, hM, hE, ⟨rfl, hK⟩, _⟩ := hok rfl
  have hv := hK rfl
  subst hv
  have H1 := hidq (And.intro hb1 (And.intro hmb (And.intro (show mb < eb by omega) (And.intro hM hE))))
  clear hb1 hok hmb hL hLe hwm hM hE hK hN
  go_wp2_with fail
  refine (of14_any eb _).mono ?_
  rintro e w2 ⟨rfl, hR, hb2⟩
  obtain ⟨rb, hrb⟩ : ∃ rb, w1.heap.size = rb := ⟨_, rfl⟩
  rw [hrb] at hR ⊢
  obtain ⟨hb1, hmb, hme, hM, hE⟩ := H1.out
  have hE2 := hE.below hb2
  have hM2 := hM.below hb2
  have hrbe : ¬ RK rb none [] eb := by
    rintro (e | ⟨x, hx, _⟩ | ⟨p, hp, _⟩)
    · have := hE.lt; omega
    · cases hx
    · cases hp
  have hB := hidq (rbegin_any rb eb none 0 [] (fun _ => none) 3 1 213 (.agg #[.int .i64 1]) mb (fun _ => none) false 0 0 5 0 1 0 0 w2 hE2 hR hrbe (fun j hj e => e) (by decide))
  have r0 := (hR.box.get 0 _ rfl).1
  have hrl := hR.box.lt
  have H2 := hidq (And.intro hR (And.intro hE2 (And.intro hM2 (And.intro (hb1.trans (hb2.mono hb1.size)) (And.intro hmb (And.intro hme (And.intro hrb (And.intro hE.lt (show w.heap.size ≤ rb by have := hb1.size; omega)))))))))
  clear hR hE2 hM2 hrbe hb1 hmb hme hM hE hb2 H1 hrb
  go_wp2_with fail
  refine hB.out.mono ?_
  rintro e w3 ⟨rfl, _, hok⟩
  obtain ⟨_, _, _, fb, cb, a3, cap3, hfb, hcb, hfc, hfa, hF3, hE3, hR3, hain, hb3⟩ := hok (by decide)
  clear hB hok r0 hrl
  rw [show begE 3 false (fun _ => none) 0 5 1 = 0 by decide]
  rw [show ((0 : Int)).toNat = 0 from rfl] at hE3 hR3
  obtain ⟨hR, hE2, hM2, hlow, hmb, hme, hrb, hel, hwrb⟩ := H2.out
  have hnmb : ¬ (mb = eb ∨ RK rb none [] mb) := by
    rintro (e | e | ⟨x, hx, _⟩ | ⟨p, hp, _⟩)
    · omega
    · omega
    · cases hx
    · cases hp
  have hM3 := hM2.but hb3 (fun k hk e => hnmb (by have : k = mb := hk; subst this; exact e))
  have hCs : [] ++ [(cb, (⟨0, 5, 0, 1, 0, 0, 0, -1, Ans.zero⟩ : Cl))] = [(cb, ⟨0, 5, 0, 1, 0, 0, 0, -1, Ans.zero⟩)] := rfl
  rw [hCs] at hR3
  obtain ⟨C0, hC0⟩ : ∃ C0 : Cl, C0 = ⟨0, 5, 0, 1, 0, 0, 0, -1, Ans.zero⟩ := ⟨_, rfl⟩
  rw [← hC0] at hR3
  have HC0 := hidq hC0
  obtain ⟨Q, hQ⟩ : ∃ Q, qset (fun _ => none) 0 (some fb) = Q := ⟨_, rfl⟩
  obtain ⟨U, hU⟩ : ∃ U, qset (fun _ => none) 0 (some cb) = U := ⟨_, rfl⟩
  have hQ0 : Q 0 = some fb := by rw [← hQ]; rfl
  have hU0 : U 0 = some cb := by rw [← hU]; rfl
  have hQb : (busyTo Q 6)[(into 0 (busyTo Q 6).length).toNat]? = some 0 := by rw [← hQ, busy1]; rfl
  rw [hQ] at hE3
  rw [hU] at hR3
  have hFr := frAt_new14 hF3 rfl rfl
  obtain ⟨F1, hst1, hk1, M2, F2, hst2⟩ := first14
  have hs3 := hb3.size
  have hml := hM2.lt mb rfl
  have hn1 : ∀ k, RK rb a3 [(cb, C0)] k → ¬ (k = mb ∨ k = fb ∨ k = eb) := by
    have hme' : mb < w2.heap.size := hml
    have hel2 := hE2.lt
    have hrl2 := hR.box.lt
    rintro k (e | e | ⟨p, hp, e⟩)
    · subst e
      rintro (q | q | q)
      · exact hnmb (.inr (.inl q.symm))
      · omega
      · omega
    · rcases hain k e with ⟨x, hx, _⟩ | q
      · cases hx
      · rintro (s | s | s)
        · omega
        · subst s; exact hfa e
        · omega
    · rw [List.mem_singleton] at hp
      subst hp
      have e' : cb = k := e
      rintro (s | s | s) <;> omega
  have hP1 := fun W (hW : Below w3.heap.size w3 W) => pickT_any 1 eb 3 1 mb Q false 0 0 0 fb (fun k => k = mb) (fun k => k = fb) (tStep 1 Mem.empty (Fr.of 5 0 1 0 0)) W (hE3.below hW) hQb hQ0 (by decide)
    (fun k hk => by have := hM3.lt mb rfl; have := hF3.lt; have := hW.size; rcases hk with (e : k = mb) | (e : k = fb) <;> omega) (fun e => by have := hE2.lt; rcases e with (e : eb = mb) | (e : eb = fb) <;> omega) ⟨_, _, _, _, _, (hF3.below hW)⟩
    (fun W' hW' => tstep_is 1 (by decide) W' mb fb (fun k => k = mb) (fun k => k = fb) Mem.empty (Fr.of 5 0 1 0 0) ((hM3.below hW).below hW') ((hFr.below hW).below hW') (fun k hk e => by have : k = mb := hk; have : k = fb := e; omega) (.inl rfl) (by decide))
  have hRP1 := hidq (rpick_any rb eb a3 cap3 [(cb, C0)] U 3 1 213 (.agg #[.int .i64 1]) mb Q false 0 0 0 fb (fun k => k = mb) (fun k => k = fb) (tStep 1 Mem.empty (Fr.of 5 0 1 0 0)) 0 cb C0 w3 (by decide) (by decide)
    (fun k hk => by have := hM3.lt mb rfl; have := hF3.lt; rcases hk with (e : k = mb) | (e : k = fb) <;> omega) hE3.lt hR3 (fun k hk e => hn1 k hk (by rcases e with (e : k = mb) | (e : k = fb) | e; exact .inl e; exact .inr (.inl e); exact .inr (.inr e))) (fun e => by rw [hst1] at e; cases e) hP1)
  rw [hst1] at hRP1
  have hlow3 : Below w.heap.size w w3 := hlow.trans (hb3.below hlow.size (fun k e => by
    rcases e with e | e | ⟨x, hx, _⟩ | ⟨p, hp, _⟩
    · omega
    · omega
    · cases hx
    · cases hp))
  have hRlow : ∀ k, RK rb a3 [(cb, C0)] k → w.heap.size ≤ k := by
    have hz := hlow.size
    rintro k (e | e | ⟨p, hp, e⟩)
    · omega
    · rcases hain k e with ⟨x, hx, _⟩ | q
      · cases hx
      · omega
    · rw [List.mem_singleton] at hp
      subst hp
      have e' : cb = k := e
      omega
  have H3 := hidq (And.intro hlow3 (And.intro hQb (And.intro hQ0 (And.intro hU0 (And.intro hk1 (And.intro hst2 (And.intro hn1 (And.intro hmb (And.intro hme (And.intro hwrb (And.intro hfb (And.intro hcb (And.intro hE2.lt (And.intro hb3.size (And.intro hQ (And.intro hR3.lt hRlow))))))))))))))))
  clear hRlow hQ hU hQ0 hU0 hQb hFr hst1 hk1 hst2 hs3 hml hn1 hP1 hlow3 hR hE2 hM2 hlow hmb hme hrb hel hwrb hnmb hM3 hF3 hE3 hR3 hain hb3 H2 hfb hcb hfc hfa hC0 hCs
  go_wp2_with fail
  refine hRP1.out.mono ?_
  rintro e w4 ⟨rfl, hE4, hR4, O4, P4, hM4, hF4, hd4, hO4, hP4, hb4⟩
  dsimp only at hE4 hR4 hM4 hF4 ⊢
  rw [if_neg (by decide)] at hE4 hR4
  unfold csAfter at hR4
  rw [if_neg (by decide)] at hR4
  obtain ⟨hlow3, hQb, hQ0, hU0, hk1, hst2, hn1, hmb, hme, hwrb, hfb, hcb, hel2, hs23, hQ, hRlt, hRlow⟩ := H3.out
  have hs34 := hb4.size
  have hOeb : ¬ (O4 eb ∨ P4 eb) := fun e => by
    rcases e with e | e
    · rcases hO4 eb e with (q : eb = mb) | q <;> omega
    · rcases hP4 eb e with (q : eb = fb) | q <;> omega
  have hlt4 : ∀ k, O4 k ∨ P4 k → k < w4.heap.size := fun k hk => hk.elim (hM4.lt k) (hF4.lt k)
  have hn2 : ∀ k, RK rb a3 [(cb, C0)] k → ¬ (O4 k ∨ P4 k ∨ k = eb) := fun k hk e => by
    have h1 := hRlt k hk
    rcases e with e | e | e
    · rcases hO4 k e with (q : k = mb) | q
      · exact hn1 k hk (.inl q)
      · omega
    · rcases hP4 k e with (q : k = fb) | q
      · exact hn1 k hk (.inr (.inl q))
      · omega
    · exact hn1 k hk (.inr (.inr e))
  have hP2 := fun W (hW : Below w4.heap.size w4 W) => pickT_any 1 eb 3 1 mb Q false 1 0 0 fb O4 P4 (tStep 1 Mem.empty F1) W (hE4.below hW) hQb hQ0 (by decide)
    (fun k hk => Nat.lt_of_lt_of_le (hlt4 k hk) hW.size) hOeb (by obtain ⟨a0, k0, a1, k1, hB, _⟩ := (hF4.below hW).box; exact ⟨a0, k0, a1, k1, F1, hB⟩)
    (fun W' hW' => tstep_is 1 (by decide) W' mb fb O4 P4 Mem.empty F1 ((hM4.below hW).below hW') ((hF4.below hW).below hW') hd4 (.inl hk1) (by decide))
  have hRP2 := hidq (rpick_any rb eb a3 cap3 [(cb, C0)] U 3 1 213 (.agg #[.int .i64 1]) mb Q false 1 0 0 fb O4 P4 (tStep 1 Mem.empty F1) 0 cb C0 w4 (by decide) (by decide) hlt4 hE4.lt hR4 hn2 (fun e => ⟨rfl, hU0⟩) hP2)
  rw [hst2] at hRP2
  have hlow4 : Below w.heap.size w w4 := hlow3.trans (hb4.below hlow3.size (fun k e => by
    have := hlow3.size
    rcases e with (e : k = mb) | (e : k = fb) | e | e
    · omega
    · omega
    · omega
    · exact hRlow k e))
  have hlow45 : ∀ k, O4 k ∨ P4 k ∨ k = eb ∨ RK rb a3 [(cb, C0)] k → w.heap.size ≤ k := fun k e => by
    have := hlow3.size
    rcases e with e | e | e | e
    · rcases hO4 k e with (q : k = mb) | q <;> omega
    · rcases hP4 k e with (q : k = fb) | q <;> omega
    · omega
    · exact hRlow k e
  have H4 := hidq (And.intro hlow4 hlow45)
  clear hlow45 hRlow hlow3 hQb hQ0 hU0 hk1 hst2 hn1 hmb hme hwrb hfb hcb hel2 hs23 hQ hRlt hs34 hOeb hlt4 hn2 hP2 hlow4 hE4 hR4 hM4 hF4 hd4 hO4 hP4 hb4
  go_wp2_with fail
  refine hRP2.out.mono ?_
  rintro e w5 ⟨rfl, hE5, hR5, O5, P5, hM5, hF5, hd5, hO5, hP5, hb5⟩
  dsimp only at hR5 ⊢
  rw [if_pos rfl] at hR5
  unfold csAfter at hR5
  rw [if_pos rfl] at hR5
  obtain ⟨C1, hC1⟩ : ∃ C1 : Cl, ({ C0 with fin := ((1 : Nat) : Int), ans := ⟨true, 0, 0, 0⟩ } : Cl) = C1 := ⟨_, rfl⟩
  rw [hC1] at hR5
  have hR6 : RecAt w5 rb eb a3 cap3 [(cb, C1)] (qset U 0 none) := hR5
  have hCv : C1 = ⟨0, 5, 0, 1, 0, 0, 0, 1, ⟨true, 0, 0, 0⟩⟩ := by rw [← hC1, HC0.out]; rfl
  subst hCv
  have hCA := hidq (calls14_any rb eb a3 cap3 [(cb, ⟨0, 5, 0, 1, 0, 0, 0, 1, ⟨true, 0, 0, 0⟩⟩)] (qset U 0 none) w5 hR6 (by show 1 ≤ 1000; decide))
  have hlow5 : Below w.heap.size w w5 := H4.out.1.trans (hb5.below H4.out.1.size H4.out.2)
  have H5 := hidq hlow5
  clear hE5 hR5 hM5 hF5 hd5 hO5 hP5 hb5 hR6 hlow5 hRP1 hRP2 H3 H4 HC0
  go_wp2_with fail
  refine hCA.out.mono ?_
  rintro e w6 ⟨a6, cap6, rfl, hS6, hin6, hb6⟩
  have hS6' : SlAt 12 w6 a6 cap6 1 [.int .i64 0, .int .i64 5, .float .f64 0, .int .i64 1, .int .i64 0, .int .i64 0, .int .i64 0, .int .i64 1, .bool true, .float .f64 0, .int .i64 0, .int .i64 0] := hS6
  have hCA2 := fun a c w h => check14_any [⟨0, 5, 0, 1, 0, 0, 0, 1, ⟨true, 0, 0, 0⟩⟩, ⟨0, 5, 0, 1, 0, 0, 0, 1, ⟨true, 0, 0, 0⟩⟩] a c 2 w h rfl (by decide)
  rw [show hchk [⟨0, 5, 0, 1, 0, 0, 0, 1, ⟨true, 0, 0, 0⟩⟩, ⟨0, 5, 0, 1, 0, 0, 0, 1, ⟨true, 0, 0, 0⟩⟩] 0 (fun _ => none) = 14 by decide] at hCA2
  have HSL := hidq hS6'
  have HC2 := hidq hCA2
  obtain ⟨g, rfl, hgl, hg0⟩ := hS6'.cell (t := 0) (u := .int .i64 0) rfl
  obtain ⟨_, q1, _, hg1⟩ := hS6'.cell (t := 1) (u := .int .i64 5) rfl
  cases q1
  obtain ⟨_, q2, _, hg2⟩ := hS6'.cell (t := 2) (u := .float .f64 0) rfl
  cases q2
  obtain ⟨_, q3, _, hg3⟩ := hS6'.cell (t := 3) (u := .int .i64 1) rfl
  cases q3
  obtain ⟨_, q4, _, hg4⟩ := hS6'.cell (t := 4) (u := .int .i64 0) rfl
  cases q4
  obtain ⟨_, q5, _, hg5⟩ := hS6'.cell (t := 5) (u := .int .i64 0) rfl
  cases q5
  obtain ⟨_, q6, _, hg6⟩ := hS6'.cell (t := 6) (u := .int .i64 0) rfl
  cases q6
  obtain ⟨_, q7, _, hg7⟩ := hS6'.cell (t := 7) (u := .int .i64 1) rfl
  cases q7
  obtain ⟨_, q8, _, hg8⟩ := hS6'.cell (t := 8) (u := .bool true) rfl
  cases q8
  obtain ⟨_, q9, _, hg9⟩ := hS6'.cell (t := 9) (u := .float .f64 0) rfl
  cases q9
  obtain ⟨_, q10, _, hg10⟩ := hS6'.cell (t := 10) (u := .int .i64 0) rfl
  cases q10
  obtain ⟨_, q11, _, hg11⟩ := hS6'.cell (t := 11) (u := .int .i64 0) rfl
  cases q11
  have HGW := hidq (show ∀ k, inB (some ⟨g, 0, none⟩) k → w.heap.size ≤ k from fun k hk => by have h1 := hin6 k hk; have h2 := H5.out.size; omega)
  have hcl6 : 1 ≤ cap6 := hS6'.le
  have H6 := hidq (H5.out.trans (hb6.mono H5.out.size))
  clear hS6 hS6' hin6 hb6 hCA2 H5
  go_wp2_with (at_builtin; (refine wpList_slW plainCl _ rfl (.tmp 58) (.tmp 62) rfl (some ⟨g, 0, none⟩) cap6 1 [.int .i64 0, .int .i64 5, .float .f64 0, .int .i64 1, .int .i64 0, .int .i64 0, .int .i64 0, .int .i64 1, .bool true, .float .f64 0, .int .i64 0, .int .i64 0] rfl (HSL.out.below ((Below.refl _ _).alloc (Nat.le_refl _) _)) _ rfl 1 [.int .i64 0, .int .i64 5, .float .f64 0, .int .i64 1, .int .i64 0, .int .i64 0, .int .i64 0, .int .i64 1, .bool true, .float .f64 0, .int .i64 0, .int .i64 0] (src_new 12 _ Tryz.underlying104 w6.heap.size [.int .i64 0, .int .i64 5, .float .f64 0, .int .i64 1, .int .i64 0, .int .i64 0, .int .i64 0, .int .i64 1, .bool true, .float .f64 0, .int .i64 0, .int .i64 0] rfl (fun j u hu => by rw [World.cell?_alloc_new, List.getElem?_toArray]; exact hu) (cl_one ⟨0, 5, 0, 1, 0, 0, 0, 1, ⟨true, 0, 0, 0⟩⟩)) (by omega) (by decide) ?_); intro g2 c2 w7 hF2 hb2 hg2)
  have hSZ : SlAt 12 w7 (some ⟨g2, 0, none⟩) c2 2 (flatCl [⟨0, 5, 0, 1, 0, 0, 0, 1, ⟨true, 0, 0, 0⟩⟩, ⟨0, 5, 0, 1, 0, 0, 0, 1, ⟨true, 0, 0, 0⟩⟩]) := .inr ⟨g2, rfl, hF2⟩
  have hgw : ∀ k, inB (some ⟨g, 0, none⟩) k → w.heap.size ≤ k := HGW.out
  have h7 : Below w.heap.size w w7 := (H6.out.alloc H6.out.size _).trans (hb2.below (by have := H6.out.size; simp; omega) hgw)
  have H7 := hidq h7
  refine (HC2.out _ _ _ hSZ).mono ?_
  clear hSZ hgw h7 hF2 hb2 HC2 HSL H6
  rintro e w8 ⟨rfl, hb8⟩
  have H8 := hidq (H7.out.trans (hb8.mono H7.out.size))
  clear hb8 H7
  go_wp2_with fail
  go_ret
  exact ⟨rfl, H8.out⟩
end Go.Proofs.YtplpenimhiknnaaGreat

namespace Go.Proofs.YtplpenimhiknnaaGreat
open Go.RowKit Go.Sort

abbrev evZ : Value := .agg #[.int .i64 0, .int .i64 0, .float .f64 0, .int .i64 0, .int .i64 0, .int .i64 0, .bool false, .bool false, .float .f64 0, .int .i64 0, .int .i64 0]
set_option maxRecDepth 20000 in
set_option maxHeartbeats 4000000 in
theorem pickno_any (eb : Nat) (kind param : Int) (T : TypeId) (mv : Value) (mb : Nat) (Q : Nat → Option Nat) (closed : Bool) (steps : Int) (pick : Int) (w : World) (h : BoxAt w eb (ecells kind param T mv mb Q closed steps)) (hb : busyTo Q 6 = []) :
    Calls Tryz.prog 33 #[.pointer (some ⟨eb, 0, none⟩), .int .i64 pick] w fun e w' => e = .returned (.tuple #[evZ, .bool false]) ∧ Below w.heap.size w w' := by
  have hsf := run_store_flt (P := Tryz.prog)
  obtain ⟨vb, hvb⟩ : ∃ vb, w.heap.size = vb := ⟨_, rfl⟩
  obtain ⟨W0, hW0⟩ : ∃ W0, w.alloc (.cells #[.int .i64 0, .int .i64 0, .float .f64 0, .int .i64 0, .int .i64 0, .int .i64 0, .bool false, .bool false, .float .f64 0, .int .i64 0, .int .i64 0] 82) = W0 := ⟨_, rfl⟩
  have hV0 := BoxAt.new w [.int .i64 0, .int .i64 0, .float .f64 0, .int .i64 0, .int .i64 0, .int .i64 0, .bool false, .bool false, .float .f64 0, .int .i64 0, .int .i64 0] 82
  rw [show w.alloc (.cells [.int .i64 0, .int .i64 0, .float .f64 0, .int .i64 0, .int .i64 0, .int .i64 0, .bool false, .bool false, .float .f64 0, .int .i64 0, .int .i64 0].toArray 82) = W0 from hW0, hvb] at hV0
  have hb0 : Below w.heap.size w W0 := by rw [← hW0]; exact (Below.refl _ _).alloc (Nat.le_refl _) _
  have hBz := busy_any eb kind param T mv mb Q closed steps W0 (h.below hb0)
  have hBE : ∀ e w', BusyEnd Q W0 e w' → ∃ a cap, e = .returned (.slice a 0 cap) ∧ Below W0.heap.size W0 w' := by
    rintro e w' ⟨a, cap, h1, _, _, h4⟩
    rw [hb] at h1
    exact ⟨a, cap, h1, h4⟩
  replace hBz := hBz.mono hBE
  have HH := hidq (And.intro hV0 (And.intro hb0 hvb))
  clear hBE h hb hV0 hb0
  go_enter Tryz.func33, Tryz.ntmps33
  go_wp2_with fail
  refine hBz.mono ?_
  rintro e w1 ⟨a, cap, rfl, hb1⟩
  clear hBz
  obtain ⟨hV0, hb0, _⟩ := HH.out
  have hV1 := hV0.below hb1
  obtain ⟨v0, u0⟩ := hV1.get 0 _ rfl
  obtain ⟨v1, u1⟩ := hV1.get 1 _ rfl
  obtain ⟨v2, u2⟩ := hV1.get 2 _ rfl
  obtain ⟨v3, u3⟩ := hV1.get 3 _ rfl
  obtain ⟨v4, u4⟩ := hV1.get 4 _ rfl
  obtain ⟨v5, u5⟩ := hV1.get 5 _ rfl
  obtain ⟨v6, u6⟩ := hV1.get 6 _ rfl
  obtain ⟨v7, u7⟩ := hV1.get 7 _ rfl
  obtain ⟨v8, u8⟩ := hV1.get 8 _ rfl
  obtain ⟨v9, u9⟩ := hV1.get 9 _ rfl
  obtain ⟨v10, u10⟩ := hV1.get 10 _ rfl
  have hvl := hV1.lt
  have hlow := hb0.trans (hb1.mono hb0.size)
  obtain ⟨Wv, hWv⟩ : ∃ Wv, setBox w1 vb [(0, .int .i64 0), (1, .int .i64 0), (2, .float .f64 0), (3, .int .i64 0), (4, .int .i64 0), (5, .int .i64 0), (6, .bool false), (7, .bool false), (8, .float .f64 0), (9, .int .i64 0), (10, .int .i64 0)] = Wv := ⟨_, rfl⟩
  have hbv : But (fun j => j = vb) w1 Wv := by rw [← hWv]; exact setBox_but vb _ w1
  have hQV : BoxAt Wv vb [.int .i64 0, .int .i64 0, .float .f64 0, .int .i64 0, .int .i64 0, .int .i64 0, .bool false, .bool false, .float .f64 0, .int .i64 0, .int .i64 0] := by rw [← hWv]; exact setBox_box _ hV1
  dsimp only [setBox] at hWv
  have HWv := hidq hWv
  have HE := hidq (hlow.trans (hbv.below hlow.size (fun k e => by have : k = vb := e; omega)))
  have HQZ := hidq hQV
  clear hQV hbv hWv hlow hV0 hb0 hV1 hb1 HH hvb hW0
  go_wp2_with fail
  try rw [HWv.out]
  have hQV := HQZ.out
  have q0 := (hQV.get 0 _ rfl).1
  have q1 := (hQV.get 1 _ rfl).1
  have q2 := (hQV.get 2 _ rfl).1
  have q3 := (hQV.get 3 _ rfl).1
  have q4 := (hQV.get 4 _ rfl).1
  have q5 := (hQV.get 5 _ rfl).1
  have q6 := (hQV.get 6 _ rfl).1
  have q7 := (hQV.get 7 _ rfl).1
  have q8 := (hQV.get 8 _ rfl).1
  have q9 := (hQV.get 9 _ rfl).1
  have q10 := (hQV.get 10 _ rfl).1
  clear hQV
  exact bodyPost_ret (v := .tuple #[evZ, .bool false]) (by simp [results, Tryz.results33, go_sem, q0, q1, q2, q3, q4, q5, q6, q7, q8, q9, q10]) rfl ⟨rfl, HE.out⟩
end Go.Proofs.YtplpenimhiknnaaGreat

namespace Go.Proofs.YtplpenimhiknnaaGreat
open Go.RowKit Go.Sort

set_option maxRecDepth 20000 in
set_option maxHeartbeats 1000000 in
theorem rpickno_any (rb eb : Nat) (a : Option Addr) (cap : Nat) (cs : List (Nat × Cl)) (U : Nat → Option Nat) (pick : Int) (w : World) (hR : RecAt w rb eb a cap cs U)
    (hP : ∀ W, Below w.heap.size w W → Calls Tryz.prog 33 #[.pointer (some ⟨eb, 0, none⟩), .int .i64 pick] W fun e w' => e = .returned (.tuple #[evZ, .bool false]) ∧ Below W.heap.size W w') :
    Calls Tryz.prog 48 #[.pointer (some ⟨rb, 0, none⟩), .int .i64 pick] w fun e w' => e = .returned (.tuple #[evZ, .bool false]) ∧ Below w.heap.size w w' := by
  have hsf := run_store_flt (P := Tryz.prog)
  obtain ⟨vb, hvb⟩ : ∃ vb, w.heap.size = vb := ⟨_, rfl⟩
  obtain ⟨W0, hW0⟩ : ∃ W0, w.alloc (.cells #[.int .i64 0, .int .i64 0, .float .f64 0, .int .i64 0, .int .i64 0, .int .i64 0, .bool false, .bool false, .float .f64 0, .int .i64 0, .int .i64 0] 82) = W0 := ⟨_, rfl⟩
  have hV0 := BoxAt.new w [.int .i64 0, .int .i64 0, .float .f64 0, .int .i64 0, .int .i64 0, .int .i64 0, .bool false, .bool false, .float .f64 0, .int .i64 0, .int .i64 0] 82
  rw [show w.alloc (.cells [.int .i64 0, .int .i64 0, .float .f64 0, .int .i64 0, .int .i64 0, .int .i64 0, .bool false, .bool false, .float .f64 0, .int .i64 0, .int .i64 0].toArray 82) = W0 from hW0, hvb] at hV0
  have hb0 : Below w.heap.size w W0 := by rw [← hW0]; exact (Below.refl _ _).alloc (Nat.le_refl _) _
  have hR0 := hR.below hb0
  have r0 := (hR0.box.get 0 _ rfl).1
  have hrl := hR0.box.lt
  have HP := hidq (hP W0 hb0)
  have HH := hidq (And.intro hV0 (And.intro hb0 hvb))
  clear hV0 hb0 hR0 hR hP
  go_enter Tryz.func48, Tryz.ntmps48
  go_wp2_with fail
  refine HP.out.mono ?_
  rintro e w1 ⟨rfl, hb1⟩
  clear HP r0 hrl hW0
  obtain ⟨hV0, hb0, hvb'⟩ := HH.out
  have hV1 := hV0.below hb1
  obtain ⟨xb, hxb⟩ : ∃ xb, w1.heap.size = xb := ⟨_, rfl⟩
  obtain ⟨W2, hW2⟩ : ∃ W2, w1.alloc (.cells #[.int .i64 0, .int .i64 0, .float .f64 0, .int .i64 0, .int .i64 0, .int .i64 0, .bool false, .bool false, .float .f64 0, .int .i64 0, .int .i64 0] 82) = W2 := ⟨_, rfl⟩
  have hX2 := BoxAt.new w1 [.int .i64 0, .int .i64 0, .float .f64 0, .int .i64 0, .int .i64 0, .int .i64 0, .bool false, .bool false, .float .f64 0, .int .i64 0, .int .i64 0] 82
  rw [show w1.alloc (.cells [.int .i64 0, .int .i64 0, .float .f64 0, .int .i64 0, .int .i64 0, .int .i64 0, .bool false, .bool false, .float .f64 0, .int .i64 0, .int .i64 0].toArray 82) = W2 from hW2, hxb] at hX2
  have hb2 : Below w1.heap.size w1 W2 := by rw [← hW2]; exact (Below.refl _ _).alloc (Nat.le_refl _) _
  have hV2 := hV1.below hb2
  have hvx : xb ≠ vb := by have := hV0.lt; have := hb1.size; omega
  have hlow := (hb0.trans (hb1.mono hb0.size)).trans (hb2.mono (by have := hb0.size; have := hb1.size; omega))
  obtain ⟨x0, _⟩ := hX2.get 0 _ rfl
  obtain ⟨x1, _⟩ := hX2.get 1 _ rfl
  obtain ⟨x2, _⟩ := hX2.get 2 _ rfl
  obtain ⟨x3, _⟩ := hX2.get 3 _ rfl
  obtain ⟨x4, _⟩ := hX2.get 4 _ rfl
  obtain ⟨x5, _⟩ := hX2.get 5 _ rfl
  obtain ⟨x6, _⟩ := hX2.get 6 _ rfl
  obtain ⟨x7, _⟩ := hX2.get 7 _ rfl
  obtain ⟨x8, _⟩ := hX2.get 8 _ rfl
  obtain ⟨x9, _⟩ := hX2.get 9 _ rfl
  obtain ⟨x10, _⟩ := hX2.get 10 _ rfl
  obtain ⟨v0, u0⟩ := hV2.get 0 _ rfl
  obtain ⟨v1, u1⟩ := hV2.get 1 _ rfl
  obtain ⟨v2, u2⟩ := hV2.get 2 _ rfl
  obtain ⟨v3, u3⟩ := hV2.get 3 _ rfl
  obtain ⟨v4, u4⟩ := hV2.get 4 _ rfl
  obtain ⟨v5, u5⟩ := hV2.get 5 _ rfl
  obtain ⟨v6, u6⟩ := hV2.get 6 _ rfl
  obtain ⟨v7, u7⟩ := hV2.get 7 _ rfl
  obtain ⟨v8, u8⟩ := hV2.get 8 _ rfl
  obtain ⟨v9, u9⟩ := hV2.get 9 _ rfl
  obtain ⟨v10, u10⟩ := hV2.get 10 _ rfl
  have hxl := hX2.lt
  have hvl := hV2.lt
  obtain ⟨Wv, hWv⟩ : ∃ Wv, setBox W2 vb [(0, .int .i64 0), (1, .int .i64 0), (2, .float .f64 0), (3, .int .i64 0), (4, .int .i64 0), (5, .int .i64 0), (6, .bool false), (7, .bool false), (8, .float .f64 0), (9, .int .i64 0), (10, .int .i64 0)] = Wv := ⟨_, rfl⟩
  have hbv : But (fun j => j = vb) W2 Wv := by rw [← hWv]; exact setBox_but vb _ W2
  have hQV : BoxAt Wv vb [.int .i64 0, .int .i64 0, .float .f64 0, .int .i64 0, .int .i64 0, .int .i64 0, .bool false, .bool false, .float .f64 0, .int .i64 0, .int .i64 0] := by rw [← hWv]; exact setBox_box _ hV2
  dsimp only [setBox] at hWv
  have HWv := hidq hWv
  have HE := hidq (hlow.trans (hbv.below hlow.size (fun k e => by have : k = vb := e; omega)))
  have HQZ := hidq hQV
  clear hQV hbv hWv hlow hV0 hb0 hV1 hb1 HH hvb' hvb hX2 hb2 hV2
  subst hW2
  go_wp2_with fail
  try rw [HWv.out]
  have hQV := HQZ.out
  have q0 := (hQV.get 0 _ rfl).1
  have q1 := (hQV.get 1 _ rfl).1
  have q2 := (hQV.get 2 _ rfl).1
  have q3 := (hQV.get 3 _ rfl).1
  have q4 := (hQV.get 4 _ rfl).1
  have q5 := (hQV.get 5 _ rfl).1
  have q6 := (hQV.get 6 _ rfl).1
  have q7 := (hQV.get 7 _ rfl).1
  have q8 := (hQV.get 8 _ rfl).1
  have q9 := (hQV.get 9 _ rfl).1
  have q10 := (hQV.get 10 _ rfl).1
  clear hQV
  exact bodyPost_ret (v := .tuple #[evZ, .bool false]) (by simp [results, Tryz.results48, go_sem, q0, q1, q2, q3, q4, q5, q6, q7, q8, q9, q10]) rfl ⟨rfl, HE.out⟩
end Go.Proofs.YtplpenimhiknnaaGreat

namespace Go.Proofs.YtplpenimhiknnaaGreat
open Go.RowKit Go.Sort

abbrev CO (t : Nat) : Cl := ⟨(t : Int), 6, 0, 0, 0, 0, 0, -1, Ans.zero⟩
structure OS (w0 W : World) (rb eb mb i : Nat) (a : Option Addr) (cap : Nat) (cs : List (Nat × Cl)) (U Q : Nat → Option Nat) : Prop where
  rec_ : RecAt W rb eb a cap cs U
  eng : BoxAt W eb (ecells 3 1 213 (.agg #[.int .i64 1]) mb Q false 0)
  mem : MemAt W mb (fun k => k = mb) Mem.empty
  low : Below w0.heap.size w0 W
  sep : ∀ k, RK rb a cs k → w0.heap.size ≤ k ∧ k ≠ eb ∧ k ≠ mb
  upe : w0.heap.size ≤ eb
  upm : w0.heap.size ≤ mb
  ne : eb ≠ mb
  cl : ∀ j p, cs[j]? = some p → p.2 = CO j
  len : cs.length = i
  th : ∀ t, t < i → ∃ fb p, Q t = some fb ∧ cs[t]? = some p ∧ U t = some p.1 ∧ BoxAt W fb ((Fr.of 6 0 0 0 0).l none 0 none 0) ∧ w0.heap.size ≤ fb ∧ fb ≠ eb ∧ fb ≠ mb ∧ ¬ RK rb a cs fb
  no : ∀ t, i ≤ t → Q t = none ∧ U t = none
/-- The same, whatever lies where. -/
def OSx (w0 W : World) (rb eb mb i : Nat) : Prop := ∃ a cap cs U Q, OS w0 W rb eb mb i a cap cs U Q
section
variable {w0 W W' : World} {rb eb mb i : Nat} {a : Option Addr} {cap : Nat} {cs : List (Nat × Cl)} {U Q : Nat → Option Nat}
theorem OS.below (h : OS w0 W rb eb mb i a cap cs U Q) (hb : Below W.heap.size W W') : OS w0 W' rb eb mb i a cap cs U Q :=
  ⟨h.rec_.below hb, h.eng.below hb, h.mem.below hb, h.low.trans (hb.mono h.low.size), h.sep, h.upe, h.upm, h.ne, h.cl, h.len, fun t ht => by
    obtain ⟨fb, p, h1, h2, h3, h4, h5⟩ := h.th t ht
    exact ⟨fb, p, h1, h2, h3, h4.below hb, h5⟩, h.no⟩
theorem OSx.below (h : OSx w0 W rb eb mb i) (hb : Below W.heap.size W W') : OSx w0 W' rb eb mb i := by
  obtain ⟨a, cap, cs, U, Q, h⟩ := h
  exact ⟨a, cap, cs, U, Q, h.below hb⟩
theorem OSx.low (h : OSx w0 W rb eb mb i) : Below w0.heap.size w0 W := by
  obtain ⟨a, cap, cs, U, Q, h⟩ := h
  exact h.low
theorem OS.begin_ (h : OS w0 W rb eb mb i a cap cs U Q) (hi : i < 6) :
    Calls Tryz.prog 47 #[.pointer (some ⟨rb, 0, none⟩), .int .i64 (i : Int), .agg #[.int .i64 6, .float .f64 0, .int .i64 0, .int .i64 0, .int .i64 0]] W fun e w' => (∃ x, e = .returned (.int .i64 x)) ∧ OSx w0 w' rb eb mb (i + 1) := by
  have hne : ¬ RK rb a cs eb := fun e => (h.sep eb e).2.1 rfl
  have hU : ∀ j, j < 6 → Q j = none → U j = none := fun j _ hq => by
    rcases Nat.lt_or_ge j i with e | e
    · obtain ⟨fb, p, h1, _⟩ := h.th j e
      rw [hq] at h1; cases h1
    · exact (h.no j e).2
  have hB : begE 3 false Q (i : Int) 6 0 = 0 := by
    unfold begE
    rw [if_neg (fun e => e (by omega)), if_neg (by decide), show chk 3 6 0 = 0 by decide, if_neg (fun e => e rfl), show ((i : Int)).toNat = i by omega, (h.no i (Nat.le_refl _)).1]
    rfl
  refine (rbegin_any rb eb a cap cs U 3 1 213 (.agg #[.int .i64 1]) mb Q false 0 (i : Int) 6 0 0 0 0 W h.eng h.rec_ hne hU (by rw [h.len]; omega)).mono ?_
  rintro e w' ⟨he, _, hok⟩
  obtain ⟨_, _, _, fb, cb, a', cap', hfb, hcb, hfc, hfa, hF, hE, hR, hain, hbt⟩ := hok hB
  rw [show ((i : Int)).toNat = i by omega] at hE hR
  have hws := h.low.size
  have hel := h.eng.lt
  have hml := h.mem.lt mb rfl
  have hRl := h.rec_.lt
  have hrbl := hRl rb (.inl rfl)
  have hRK : ∀ k, RK rb a' (cs ++ [(cb, CO i)]) k → RK rb a cs k ∨ W.heap.size ≤ k := by
    rintro k (e | e | ⟨p, hp, e⟩)
    · exact .inl (.inl e)
    · exact (hain k e).imp (fun q => .inr (.inl q)) id
    · rcases List.mem_append.1 hp with q | q
      · exact .inl (.inr (.inr ⟨p, q, e⟩))
      · rw [List.mem_singleton] at q
        subst q
        have e' : cb = k := e
        exact .inr (by omega)
  refine ⟨⟨_, he⟩, a', cap', _, _, _, hR, hE, h.mem.but hbt (fun k hk e => ?_), h.low.trans (hbt.below hws (fun k e => ?_)), fun k hk => ?_, h.upe, h.upm, h.ne, fun j p hp => ?_, by rw [List.length_append, h.len]; rfl, fun t ht => ?_, fun t ht => ?_⟩
  · have hk' : k = mb := hk
    subst hk'
    rcases e with e | e
    · exact h.ne e.symm
    · exact (h.sep _ e).2.2 rfl
  · rcases e with e | e
    · have := h.upe; omega
    · exact (h.sep k e).1
  · rcases hRK k hk with q | q
    · exact h.sep k q
    · exact ⟨by omega, by omega, by omega⟩
  · by_cases e : j < i
    · rw [List.getElem?_append_left (by rw [h.len]; exact e)] at hp
      exact h.cl j p hp
    · have hj : j = i := by
        have := (List.getElem?_eq_some_iff.1 hp).1
        rw [List.length_append, h.len] at this
        have : j < i + 1 := this
        omega
      subst hj
      rw [List.getElem?_append_right (by rw [h.len]; exact Nat.le_refl _), h.len, Nat.sub_self] at hp
      cases hp
      rfl
  · by_cases e : t < i
    · obtain ⟨f, p, h1, h2, h3, h4, h5, h6, h7, h8⟩ := h.th t e
      refine ⟨f, p, by rw [qset_other _ _ _ (by omega)]; exact h1, by rw [List.getElem?_append_left (by rw [h.len]; exact e)]; exact h2, by rw [qset_other _ _ _ (by omega)]; exact h3, h4.but hbt (fun q => ?_), h5, h6, h7, fun q => ?_⟩
      · rcases q with q | q
        · exact h6 q
        · exact h8 q
      · rcases hRK f q with s | s
        · exact h8 s
        · have := h4.lt; omega
    · have hti : t = i := by omega
      subst hti
      refine ⟨fb, (cb, CO t), qset_same _ _ _, by rw [List.getElem?_append_right (by rw [h.len]; exact Nat.le_refl _), h.len, Nat.sub_self]; rfl, qset_same _ _ _, hF, by omega, by omega, by omega, fun q => ?_⟩
      rcases q with q | q | ⟨p, hp, q⟩
      · omega
      · exact hfa q
      · rcases List.mem_append.1 hp with s | s
        · have := hRl p.1 (.inr (.inr ⟨p, s, rfl⟩)); omega
        · rw [List.mem_singleton] at s
          subst s
          exact hfc (by have q' : cb = fb := q; omega)
  · rw [qset_other _ _ _ (by omega), qset_other _ _ _ (by omega)]
    exact h.no t (by omega)
theorem OSx.begin_ (h : OSx w0 W rb eb mb (min i 6)) (hi : i ≤ 6) :
    Calls Tryz.prog 47 #[.pointer (some ⟨rb, 0, none⟩), .int .i64 (i : Int), .agg #[.int .i64 6, .float .f64 0, .int .i64 0, .int .i64 0, .int .i64 0]] W fun e w' => (∃ x, e = .returned (.int .i64 x)) ∧ OSx w0 w' rb eb mb (min (i + 1) 6) := by
  obtain ⟨a, cap, cs, U, Q, h⟩ := h
  by_cases e : i < 6
  · rw [show min i 6 = i by omega] at h
    rw [show min (i + 1) 6 = i + 1 by omega]
    exact h.begin_ e
  · have : i = 6 := by omega
    subst this
    have hne : ¬ RK rb a cs eb := fun e => (h.sep eb e).2.1 rfl
    have hU : ∀ j, j < 6 → Q j = none → U j = none := fun j hj hq => by
      obtain ⟨fb, p, h1, _⟩ := h.th j hj
      rw [hq] at h1; cases h1
    refine (rbegin_any rb eb a cap cs U 3 1 213 (.agg #[.int .i64 1]) mb Q false 0 6 6 0 0 0 0 W h.eng h.rec_ hne hU (by rw [h.len]; decide)).mono ?_
    rintro e w' ⟨he, hno, _⟩
    have hB : begE 3 false Q 6 6 0 = 4 := if_pos (by decide)
    rw [hB] at hno
    exact ⟨⟨_, he⟩, a, cap, cs, U, Q, h.below (hno (by decide))⟩
end
end Go.Proofs.YtplpenimhiknnaaGreat

namespace Go.Proofs.YtplpenimhiknnaaGreat
open Go.RowKit Go.Sort

theorem sum14 : ∃ F1 x, tStep 1 Mem.empty (Fr.of 6 0 0 0 0) = (Mem.empty, F1, ⟨true, 0, 0, x⟩, true) := ⟨_, _, rfl⟩
/-- Behind the step. -/
def PostP (w0 W : World) (rb eb q : Nat) : Prop :=
  ∃ a cap cs U, RecAt W rb eb a cap cs U ∧ cs.length = q ∧ (∀ (j : Nat) (p : Nat × Cl), cs[j]? = some p → p.2.thread = (j : Int) ∧ p.2.fin ≤ 0) ∧ Below w0.heap.size w0 W
theorem PostP.below {w0 W W' : World} {rb eb q : Nat} (h : PostP w0 W rb eb q) (hb : Below W.heap.size W W') : PostP w0 W' rb eb q := by
  obtain ⟨a, cap, cs, U, h1, h2, h3, h4⟩ := h
  exact ⟨a, cap, cs, U, h1.below hb, h2, h3, h4.trans (hb.mono h4.size)⟩
theorem OSx.pick {w0 W : World} {rb eb mb q : Nat} (h : OSx w0 W rb eb mb q) (pick : Int) :
    Calls Tryz.prog 48 #[.pointer (some ⟨rb, 0, none⟩), .int .i64 pick] W fun e w' => (∃ x y, e = .returned (.tuple #[x, y])) ∧ PostP w0 w' rb eb q := by
  obtain ⟨a, cap, cs, U, Q, h⟩ := h
  have hpre : ∀ (j : Nat) (p : Nat × Cl), cs[j]? = some p → p.2.thread = (j : Int) ∧ p.2.fin ≤ 0 := fun j p hp => by
    rw [h.cl j p hp]; exact ⟨rfl, by show (-1 : Int) ≤ 0; decide⟩
  by_cases hb : busyTo Q 6 = []
  · refine (rpickno_any rb eb a cap cs U pick W h.rec_ (fun W' hW => pickno_any eb 3 1 213 (.agg #[.int .i64 1]) mb Q false 0 pick W' (h.eng.below hW) hb)).mono ?_
    rintro e w' ⟨rfl, hbl⟩
    exact ⟨⟨_, _, rfl⟩, a, cap, cs, U, h.rec_.below hbl, h.len, hpre, h.low.trans (hbl.mono h.low.size)⟩
  · have hn1 : 1 ≤ (busyTo Q 6).length := by
      rcases Nat.eq_zero_or_pos (busyTo Q 6).length with e | e
      · exact absurd (List.length_eq_zero_iff.1 e) hb
      · exact e
    have hin := into_rng (d := pick) (n := ((busyTo Q 6).length : Int)) (by omega)
    obtain ⟨t, ht⟩ : ∃ t, (busyTo Q 6)[(into pick (busyTo Q 6).length).toNat]? = some t := ⟨_, List.getElem?_eq_getElem (by omega)⟩
    obtain ⟨ht6, fb0, hQ0⟩ := busyTo_mem.1 (List.mem_of_getElem? ht)
    have htq : t < q := by
      rcases Nat.lt_or_ge t q with e | e
      · exact e
      · rw [(h.no t e).1] at hQ0; cases hQ0
    obtain ⟨fb, p, hQt, hcs, hUt, hF, hfw, hfe, hfm, hfR⟩ := h.th t htq
    obtain ⟨F1, x1, hs⟩ := sum14
    have hfr := frAt_new14 hF rfl rfl
    have hml := h.mem.lt mb rfl
    have hfl := hF.lt
    have hel := h.eng.lt
    have hP := fun W' (hW : Below W.heap.size W W') => pickT_any 1 eb 3 1 mb Q false 0 pick t fb (fun k => k = mb) (fun k => k = fb) (tStep 1 Mem.empty (Fr.of 6 0 0 0 0)) W' (h.eng.below hW) ht hQt (by decide)
      (fun k hk => by have := hW.size; rcases hk with (e : k = mb) | (e : k = fb) <;> omega) (fun e => by rcases e with (e : eb = mb) | (e : eb = fb); exact h.ne e; exact hfe e.symm) ⟨_, _, _, _, _, hF.below hW⟩
      (fun W2 hW2 => tstep_is 1 (by decide) W2 mb fb (fun k => k = mb) (fun k => k = fb) Mem.empty (Fr.of 6 0 0 0 0) ((h.mem.below hW).below hW2) ((hfr.below hW).below hW2) (fun k hk e => hfm (by have h1 : k = mb := hk; have h2 : k = fb := e; omega)) (.inr ⟨rfl, Int.le_refl _, by show (0 : Int) < 1; decide⟩) (by decide))
    have hR := rpick_any rb eb a cap cs U 3 1 213 (.agg #[.int .i64 1]) mb Q false 0 pick t fb (fun k => k = mb) (fun k => k = fb) (tStep 1 Mem.empty (Fr.of 6 0 0 0 0)) t p.1 p.2 W ht6 (by decide)
      (fun k hk => by rcases hk with (e : k = mb) | (e : k = fb) <;> omega) hel h.rec_ (fun k hk e => by rcases e with (e : k = mb) | (e : k = fb) | e; exact (h.sep k hk).2.2 e; exact hfR (e ▸ hk); exact (h.sep k hk).2.1 e) (fun _ => ⟨hcs, hUt⟩) hP
    refine hR.mono ?_
    rw [hs]
    rintro e w' ⟨rfl, _, hR2, O', P', _, _, _, _, _, hbt⟩
    dsimp only at hR2
    unfold csAfter at hR2
    rw [if_pos rfl] at hR2
    refine ⟨⟨_, _, rfl⟩, a, cap, _, _, hR2, by rw [List.length_set]; exact h.len, fun j p' hp' => ?_, h.low.trans (hbt.below h.low.size (fun k e => ?_))⟩
    · rw [List.getElem?_set] at hp'
      by_cases e : t = j
      · subst e
        rw [if_pos rfl, if_pos (by rw [h.len]; exact htq)] at hp'
        cases hp'
        have hc := h.cl t p hcs
        exact ⟨by show p.2.thread = _; rw [hc], Int.le_refl _⟩
      · rw [if_neg e] at hp'
        exact hpre j p' hp'
    · have := h.upm
      have := h.upe
      rcases e with (e : k = mb) | (e : k = fb) | (e : k = eb) | e
      · omega
      · omega
      · omega
      · exact (h.sep k e).1
end Go.Proofs.YtplpenimhiknnaaGreat

namespace Go.Proofs.YtplpenimhiknnaaGreat
open Go.RowKit Go.Sort

theorem and7 (n : Int) : ∃ m : Nat, bits .and .i64 n 7 = (m : Int) ∧ m ≤ 7 := by
  have h63 : (BitVec.ofInt 64 7).toNat = 2 ^ 3 - 1 := by decide
  have key : (BitVec.ofInt 64 n &&& BitVec.ofInt 64 7).toNat = (n % ((2 ^ 64 : Nat) : Int)).toNat % 2 ^ 3 := by
    rw [BitVec.toNat_and, BitVec.toNat_ofInt, h63, Nat.and_two_pow_sub_one_eq_mod]
  refine ⟨(BitVec.ofInt 64 n &&& BitVec.ofInt 64 7).toNat, ?_, by rw [key]; omega⟩
  show IntKind.i64.wrap ((BitVec.ofInt 64 n &&& BitVec.ofInt 64 7).toNat : Nat) = _
  rw [key, IntKind.wrap_i64]
  omega

set_option maxRecDepth 20000 in
set_option maxHeartbeats 8000000 in
theorem historyOwn_any (n pick : Int) (w : World) : Calls Tryz.prog 11 #[.int .i64 n, .int .i64 pick] w fun e w' => e = .returned (.bool true) ∧ Below w.heap.size w w' := by
  obtain ⟨m, hm, hm7⟩ := and7 n
  have hsf := run_store_flt (P := Tryz.prog)
  have hA := hidq (awake14_any w)
  have hN := hidq (fun w => new13_any _ 3 1 0 (fun w => machine3_any 1 w) w)
  go_enter Tryz.func11, Tryz.ntmps11
  go_wp2_with fail
  refine hA.out.mono ?_
  rintro e w0 ⟨rfl, hb0⟩
  have H0 := hidq hb0
  clear hb0 hA
  go_wp2_with fail
  refine (hN.out _).mono ?_
  rintro e w1 ⟨hb1, _, hok⟩
  obtain ⟨T, v, eb, mb, L, wm, rfl, hmb, hL, hLe, hwm, hM, hE, ⟨rfl, hK⟩, _⟩ := hok rfl
  have hv := hK rfl
  subst hv
  have H1 := hidq (And.intro hb1 (And.intro hmb (And.intro (show mb < eb by omega) (And.intro hM hE))))
  clear hb1 hok hmb hL hLe hwm hM hE hK hN
  go_wp2_with fail
  refine (of14_any eb _).mono ?_
  rintro e w2 ⟨rfl, hR, hb2⟩
  obtain ⟨rb, hrb⟩ : ∃ rb, w1.heap.size = rb := ⟨_, rfl⟩
  rw [hrb] at hR ⊢
  have HS := hidq (show OSx w0 w2 rb eb mb (min 0 6) from by
    obtain ⟨hb1, hmb, hme, hM, hE⟩ := H1.out
    have hel := hE.lt
    have hs := hb1.size
    refine ⟨none, 0, [], fun _ => none, fun _ => none, hR, hE.below hb2, hM.below hb2, hb1.trans (hb2.mono hs), ?_, by omega, hmb, by omega, (fun j p hp => by cases hp), rfl, (fun t ht => absurd ht (Nat.not_lt_zero _)), (fun t _ => ⟨rfl, rfl⟩)⟩
    rintro k (e | ⟨x, hx, _⟩ | ⟨p, hp, _⟩)
    · subst e; omega
    · cases hx
    · cases hp)
  clear hR hb2 H1 hrb
  go_wp2_with fail
  go_loopw [8] (fun s8 wr => ∃ i : Nat, s8 = .int .i64 (i : Int) ∧ i ≤ m ∧ Hid (OSx w0 wr rb eb mb (min i 6))) (fun s8 _ => m - (intOf s8).toNat)
  case atStart => exact ⟨0, rfl, Nat.zero_le _, HS⟩
  case round =>
    clear HS
    obtain ⟨i, rfl, hi, hX⟩ := hrel
    by_cases hlt : i < m
    · have hltI : (i : Int) < (m : Int) := by omega
      have hi7 : i ≤ 6 := by omega
      go_wp2_with fail
      refine (hX.out.begin_ hi7).mono ?_
      rintro e w3 ⟨⟨x, rfl⟩, hY⟩
      have HY := hidq hY
      clear hY hX
      go_wp2_with fail
      go_roundw
      case rel => exact ⟨i + 1, by go_num, by omega, HY⟩
      case measure => simp [intOf]; omega
    have hd : decide ((i : Int) < (m : Int)) = false := decide_eq_false (by omega)
    have hd2 : decide (i < m) = false := decide_eq_false hlt
    have him : i = m := by omega
    obtain ⟨q, hq⟩ : ∃ q, min i 6 = q := ⟨_, rfl⟩
    rw [hq] at hX
    have hq6 : q ≤ 6 := by omega
    have HQ := hidq (show q = min m 6 by omega)
    clear hq him
    have hC := hidq (show Calls Tryz.prog 49 #[.pointer (some ⟨rb, 0, none⟩)] wr fun e w' => ∃ a cap, e = .returned (.slice a q cap) ∧ (q = 0 ∨ ∃ g lst, a = some ⟨g, 0, none⟩ ∧ wr.heap.size ≤ g ∧ lst.length = q * 12 ∧ BoxAt w' g lst ∧ q ≤ cap) ∧ Below wr.heap.size wr w' from by
      obtain ⟨a, cap, cs, U, Q, h⟩ := hX.out
      refine (calls14_any rb eb a cap cs U wr h.rec_ (by rw [h.len]; omega)).mono ?_
      rintro e w' ⟨a2, cap2, rfl, hS, hin, hb⟩
      have hlen : (cs.map Prod.snd).length = q := by rw [List.length_map, h.len]
      rw [hlen] at hS ⊢
      refine ⟨a2, cap2, rfl, ?_, hb⟩
      rcases hS with ⟨_, h0, _, _⟩ | ⟨g, hg, hF⟩
      · exact .inl h0
      · exact .inr ⟨g, _, hg, hin g ⟨_, hg, rfl⟩, hF.len, ⟨hF.lt, hF.cell, fun j hj => (hF.there j (by have := hF.len; have := Nat.mul_le_mul_right 12 hF.le; omega)).2⟩, hF.le⟩)
    clear hlt hi
    go_wp2_with fail
    refine hC.out.mono ?_
    rintro e w4 ⟨a4, cap4, rfl, hG, hb4⟩
    have HG := hidq (show Below wr.heap.size wr w4 ∧ (q = 0 ∨ ∃ g lst, a4 = some ⟨g, 0, none⟩ ∧ wr.heap.size ≤ g ∧ lst.length = q * 12 ∧ BoxAt w4 g lst ∧ q ≤ cap4) from ⟨hb4, hG⟩)
    clear hC hG hb4
    obtain ⟨w3, hw3⟩ : ∃ w3, w3 = wr := ⟨wr, rfl⟩
    subst hw3
    go_wp2_with fail
    go_loopw [41] (fun s41 wr => ∃ k : Nat, s41 = .int .i64 (k : Int) ∧ k ≤ q ∧ Hid (Below w3.heap.size w3 wr ∧ (q = 0 ∨ ∃ g lst, a4 = some ⟨g, 0, none⟩ ∧ w3.heap.size ≤ g ∧ lst.length = q * 12 ∧ BoxAt wr g lst ∧ q ≤ cap4))) (fun s41 _ => q - (intOf s41).toNat)
    case atStart => exact ⟨0, rfl, Nat.zero_le _, HG⟩
    case round =>
      clear HG
      obtain ⟨k, rfl, hk, hY⟩ := hrel
      by_cases hlt : k < q
      · have hltI : (k : Int) < (q : Int) := by omega
        rcases hY.out.2 with e | ⟨g, lst, rfl, hg, hll, hB, hqc⟩
        · omega
        obtain ⟨u, hu⟩ : ∃ u, lst[k * 12]? = some u := ⟨_, List.getElem?_eq_getElem (by omega)⟩
        obtain ⟨c0, y0⟩ := hB.get (k * 12) u hu
        have hgl := hB.lt
        have HN := hidq (show Below w3.heap.size w3 (wr.setCell ⟨g, k * 12, none⟩ (.int .i64 77)) ∧ (q = 0 ∨ ∃ g' lst', some (⟨g, 0, none⟩ : Addr) = some ⟨g', 0, none⟩ ∧ w3.heap.size ≤ g' ∧ lst'.length = q * 12 ∧ BoxAt (wr.setCell ⟨g, k * 12, none⟩ (.int .i64 77)) g' lst' ∧ q ≤ cap4) from
          ⟨hY.out.1.setCell hg _, .inr ⟨g, lst.set (k * 12) (.int .i64 77), rfl, hg, by rw [List.length_set]; exact hll, hB.set (k * 12) (.int .i64 77), hqc⟩⟩)
        clear hY hB hu
        go_wp2_with fail
        go_roundw
        case rel => exact ⟨k + 1, by go_num, by omega, HN⟩
        case measure => simp [intOf]; omega
      have hd3 : decide ((k : Int) < (q : Int)) = false := decide_eq_false (by omega)
      have hd4 : decide (k < q) = false := decide_eq_false hlt
      have HZ := hidq ((hX.out.below hY.out.1).pick pick)
      clear hY hX hk hlt
      go_wp2_with fail
      refine HZ.out.mono ?_
      rintro e w5 ⟨⟨x, y, rfl⟩, hP⟩
      have HP := hidq hP
      have hC2 := hidq (fun W (hW : Below w5.heap.size w5 W) => (show Calls Tryz.prog 49 #[.pointer (some ⟨rb, 0, none⟩)] W fun e w' => ∃ a cap L, e = .returned (.slice a q cap) ∧ List.length L = q ∧ (∀ (j : Nat) (c : Cl), L[j]? = some c → c.thread = (j : Int) ∧ c.fin ≤ 0) ∧ SlAt 12 w' a cap q (flatCl L) ∧ Below W.heap.size W w' from by
        obtain ⟨a, cap, cs, U, h1, h2, h3, h4⟩ := hP.below hW
        refine (calls14_any rb eb a cap cs U W h1 (by omega)).mono ?_
        rintro e w' ⟨a2, cap2, rfl, hS, hin, hb⟩
        have hlen : (cs.map Prod.snd).length = q := by rw [List.length_map, h2]
        rw [hlen] at hS ⊢
        refine ⟨a2, cap2, cs.map Prod.snd, rfl, hlen, fun j c hc => ?_, hS, hb⟩
        rw [List.getElem?_map] at hc
        obtain ⟨p, hp, rfl⟩ := Option.map_eq_some_iff.1 hc
        exact h3 j p hp))
      clear hP HZ
      go_wp2_with fail
      refine (hC2.out _ (Below.refl _ _)).mono ?_
      rintro e w6 ⟨a6, cap6, L, rfl, hL, hLp, hS6, hb6⟩
      have H6 := hidq (And.intro hL (And.intro hLp (And.intro hS6 hb6)))
      have hqc6 := hS6.le
      clear hL hLp hS6 hb6
      obtain ⟨w4, hw4⟩ : ∃ w4, w4 = wr := ⟨wr, rfl⟩
      subst hw4
      go_wp2_with fail
      go_loopw [55] (fun s55 wr => ∃ k : Nat, s55 = .int .i64 (k : Int) ∧ k ≤ q ∧ Hid (Below w6.heap.size w6 wr)) (fun s55 _ => q - (intOf s55).toNat)
      case atStart => exact ⟨0, rfl, Nat.zero_le _, Below.refl _ _⟩
      case round =>
        obtain ⟨k, rfl, hk, hY⟩ := hrel
        by_cases hlt : k < q
        · have hltI : (k : Int) < (q : Int) := by omega
          obtain ⟨hL, hLp, hS6, hb6⟩ := H6.out
          obtain ⟨c, hc⟩ : ∃ c, L[k]? = some c := ⟨_, List.getElem?_eq_getElem (by omega)⟩
          obtain ⟨hct, hcf⟩ := hLp k c hc
          have hcell : ∀ j u, c.l[j]? = some u → ∃ g, a6 = some ⟨g, 0, none⟩ ∧ g < w6.heap.size ∧ w6.cell? ⟨g, k * 12 + j, none⟩ = some u := fun j u hu => by
            have hj : j < 12 := (List.getElem?_eq_some_iff.1 hu).1
            exact hS6.cell (t := k * 12 + j) (u := u) (by rw [flatCl_get L k j c hc hj]; exact hu)
          obtain ⟨g, rfl, hgl, _⟩ := hcell 0 _ rfl
          have hrr : ∀ j u, c.l[j]? = some u → wr.cell? ⟨g, k * 12 + j, none⟩ = some u := fun j u hu => by
            obtain ⟨g', e1, _, e3⟩ := hcell j u hu
            cases e1
            rw [hY.out.cell (p := ⟨g, k * 12 + j, none⟩) hgl]; exact e3
          have m0 : wr.cell? ⟨g, k * 12, none⟩ = some (.int .i64 c.thread) := hrr 0 _ rfl
          have m1 := hrr 1 _ rfl
          have m2 := hrr 2 _ rfl
          have m3 := hrr 3 _ rfl
          have m4 := hrr 4 _ rfl
          have m5 := hrr 5 _ rfl
          have m6 := hrr 6 _ rfl
          have m7 := hrr 7 _ rfl
          have m8 := hrr 8 _ rfl
          have m9 := hrr 9 _ rfl
          have m10 := hrr 10 _ rfl
          have m11 := hrr 11 _ rfl
          have hgr : g < wr.heap.size := Nat.lt_of_lt_of_le hgl hY.out.size
          have hcf2 : decide (0 < c.fin) = false := decide_eq_false (by omega)
          rw [hct] at m0
          have HN := hidq (fun o => (show Below w6.heap.size w6 (wr.alloc o) from hY.out.trans (((Below.refl _ _).alloc (Nat.le_refl _) o).mono hY.out.size)))
          clear hL hLp hS6 hb6 hc hcell hrr hY hct
          go_wp2_with fail
          go_roundw
          case rel => exact ⟨k + 1, by go_num, by omega, HN.out _⟩
          case measure => simp [intOf]; omega
        have hd5 : decide ((k : Int) < (q : Int)) = false := decide_eq_false (by omega)
        have hd6 : decide (k < q) = false := decide_eq_false hlt
        have H7 := hidq (And.intro (H6.out.2.2.2.trans (hY.out.mono H6.out.2.2.2.size)) (show Below w.heap.size w wr from by
          have h5 := HP.out
          obtain ⟨_, _, _, _, _, _, _, h4⟩ := h5
          have hz := H0.out.size
          exact (H0.out.trans (h4.mono hz)).trans ((H6.out.2.2.2.trans (hY.out.mono H6.out.2.2.2.size)).mono (by have := h4.size; omega))))
        have HK := hidq (show k = q by omega)
        clear hY hk hlt H6
        by_cases h6 : m ≤ 6
        · have hqm : q = m := by rw [HQ.out]; omega
          have hmI : ¬ (6 : Int) < (m : Int) := by omega
          have hmI2 : (m : Int) ≤ 6 := by omega
          subst hqm
          go_wp2_with fail
          refine (hC2.out _ H7.out.1).mono ?_
          rintro e w8 ⟨a8, cap8, L8, rfl, _, _, _, hb8⟩
          have H8 := hidq (H7.out.2.trans (hb8.mono H7.out.2.size))
          clear hb8
          go_wp2_with fail
          go_ret
          exact ⟨rfl, H8.out⟩
        · have hm8 : m = 7 := by omega
          have hqm : q = 6 := by rw [HQ.out, hm8]; decide
          subst hqm
          subst hm8
          have hk6 := HK.out
          subst hk6
          go_wp2_with fail
          refine (hC2.out _ H7.out.1).mono ?_
          rintro e w8 ⟨a8, cap8, L8, rfl, _, _, _, hb8⟩
          have H8 := hidq (H7.out.2.trans (hb8.mono H7.out.2.size))
          clear hb8
          go_wp2_with fail
          go_ret
          exact ⟨rfl, H8.out⟩
end Go.Proofs.YtplpenimhiknnaaGreat
