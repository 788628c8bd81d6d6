/-
  Layer 6: an operation that nobody disturbs, on one machine: contract.
  Layer 6's reference: draws, parameters: contracts.
  Layer 8: what a Multi's operations come to, alone; New; the answers that the document fixes.
  An operation alone within a statement that draws its order: the machine in its box, the memory, and a new box for the answer.
  Layer 8: the answers that the document fixes.
  Layer 6's reference: the operations of a kind: contract.
-/
import Derived.Test.YtclcmabohpoaiaaFltOrdAll
import Derived.Test.YtclcmabohpoaiaaMultiStep8All
import Derived.Test.YtclcmabohpoaiaaFits5All
namespace Go.Proofs.Ytclcmabohpoaiaa
open Go.RowKit Go.Sort

set_option maxHeartbeats 4000000 in
theorem aloneM_any (sh : Int) {G : Mem → Fr → Prop} {st : StepFn} (hst : IsStep 53 (.agg #[.int .i64 sh]) G st) (hfn : Fine G st)
    (b : Nat) (O : Nat → Prop) (M : Mem) (kind : Int) (pri : Nat) (val d0 d1 most : Int) (w : World) (h : MemAt w b O M) (hg : G M (Fr.of kind pri val d0 d1)) (hm : most ≤ 1000) (hck : M.clock < 4611686018427386000) :
    Calls Try.prog 13 #[.iface 26 (.agg #[.int .i64 sh]), .pointer (some ⟨b, 0, none⟩), .agg #[.int .i64 kind, .float .f64 pri, .int .i64 val, .int .i64 d0, .int .i64 d1], .int .i64 most] w (AEnd b O (alone st most.toNat M (Fr.of kind pri val d0 d1)) w) := by
  have hsf := run_store_flt (P := Try.prog)
  have hms : ∀ w, (method 279 26 (.agg #[.int .i64 sh]) "Step").run Try.prog w = .ok (53, (.agg #[.int .i64 sh])) w := fun w => by kernel_rfl
  go_enter Try.func13, Try.ntmps13
  go_wp2_with fail
  obtain ⟨W0, hW0, hb00, hsz00, _, hA00⟩ := two_new w [.int .i64 kind, .float .f64 pri, .int .i64 val, .int .i64 d0, .int .i64 d1] Ans.zero.l 38 48 0
  rw [show (w.alloc (.cells #[.int .i64 kind, .float .f64 pri, .int .i64 val, .int .i64 d0, .int .i64 d1] 38)).alloc (.cells #[.bool false, .float .f64 0, .int .i64 0, .int .i64 0] 48) = W0 from hW0]
  clear hW0
  obtain ⟨fb, hfb⟩ : ∃ fb, w.heap.size + 1 + 1 = fb := ⟨_, rfl⟩
  obtain ⟨ab, hab⟩ : ∃ ab, w.heap.size + 1 = ab := ⟨_, rfl⟩
  have hfr : BoxAt (W0.alloc (.cells #[.int .i64 kind, .float .f64 pri, .int .i64 val, .int .i64 d0, .int .i64 d1, .int .i64 0, .int .i64 0, .int .i64 0, .int .i64 0, .int .i64 0, .bool false, .int .u64 0, .int .i64 0, .slice none 0 0, .int .u64 0, .int .i64 0, .slice none 0 0] 85)) fb ((Fr.of kind pri val d0 d1).l none 0 none 0) := by
    have := BoxAt.new W0 ((Fr.of kind pri val d0 d1).l none 0 none 0) 85
    rw [hsz00, hfb] at this
    exact this
  have hb0 : Below w.heap.size w (W0.alloc (.cells #[.int .i64 kind, .float .f64 pri, .int .i64 val, .int .i64 d0, .int .i64 d1, .int .i64 0, .int .i64 0, .int .i64 0, .int .i64 0, .int .i64 0, .bool false, .int .u64 0, .int .i64 0, .slice none 0 0, .int .u64 0, .int .i64 0, .slice none 0 0] 85)) := hb00.alloc (by omega) _
  have hsz1 : (W0.alloc (.cells #[.int .i64 kind, .float .f64 pri, .int .i64 val, .int .i64 d0, .int .i64 d1, .int .i64 0, .int .i64 0, .int .i64 0, .int .i64 0, .int .i64 0, .bool false, .int .u64 0, .int .i64 0, .slice none 0 0, .int .u64 0, .int .i64 0, .slice none 0 0] 85)).heap.size = w.heap.size + 3 := by rw [World.size_alloc, hsz00]
  have hA0 := hA00.below ((Below.refl W0.heap.size W0).alloc (Nat.le_refl _) (.cells #[.int .i64 kind, .float .f64 pri, .int .i64 val, .int .i64 d0, .int .i64 d1, .int .i64 0, .int .i64 0, .int .i64 0, .int .i64 0, .int .i64 0, .bool false, .int .u64 0, .int .i64 0, .slice none 0 0, .int .u64 0, .int .i64 0, .slice none 0 0] 85))
  rw [hab] at hA0
  rw [hfb, hab]
  generalize W0.alloc (.cells #[.int .i64 kind, .float .f64 pri, .int .i64 val, .int .i64 d0, .int .i64 d1, .int .i64 0, .int .i64 0, .int .i64 0, .int .i64 0, .int .i64 0, .bool false, .int .u64 0, .int .i64 0, .slice none 0 0, .int .u64 0, .int .i64 0, .slice none 0 0] 85) = W1 at *
  have hM1 := h.below hb0
  have hF1 : FrAt W1 fb (fun k => k = fb) (Fr.of kind pri val d0 d1) := ⟨rfl, fun k e => by rw [e]; exact hfr.lt, none, 0, none, 0, hfr, SlAt.nil _ _, SlAt.nil _ _, (fun j hj => by obtain ⟨y, hy, _⟩ := hj; cases hy), (fun j hj => by obtain ⟨y, hy, _⟩ := hj; cases hy)⟩
  have hOf : ∀ k, O k → k < w.heap.size := h.lt
  have hLt := hidq (And.intro hfb (And.intro hab hsz1))
  have HA := hidq hA0
  have HB := hidq hb0
  have HG := hidq hg
  have HST := hidq hst
  have HFN := hidq hfn
  have HCK := hidq hck
  clear hfb hab hsz1 hA0 hb0 hb00 hsz00 hA00 hfr h hg hst hfn hck
  go_loopw [17] (fun s wr => ∃ (k : Nat) (Mk : Mem) (Fk : Fr) (Ok Pk : Nat → Prop), s = .int .i64 (k : Int) ∧ ((k : Int) ≤ most ∨ k = 0) ∧ MemAt wr b Ok Mk ∧ FrAt wr fb Pk Fk ∧ (∀ j, Ok j → ¬ Pk j) ∧ Grown O W1 wr Ok ∧ Grown (fun j => j = fb) W1 wr Pk ∧ But (fun j => O j ∨ j = fb) W1 wr ∧ G Mk Fk ∧ Mk.clock ≤ M.clock + k ∧ Hid (alone st most.toNat M (Fr.of kind pri val d0 d1) = alone st (most.toNat - k) Mk Fk)) (fun s _ => (most - intOf s).toNat)
  case atStart =>
    obtain ⟨hfb, hab, hz1⟩ := hLt.out
    exact ⟨0, M, _, O, _, rfl, .inr rfl, hM1, hF1, fun j hj e => by have := hOf _ hj; omega, Grown.refl _ _ _, Grown.refl _ _ _, But.refl _ _, HG.out, Nat.le_refl _, hidq rfl⟩
  case round =>
    obtain ⟨k, Mk, Fk, Ok, Pk, rfl, hk, hM, hF, hD, hGO, hGP, hB, hg, hck, hal⟩ := hrel
    obtain ⟨hfb, hab, hz1⟩ := hLt.out
    have hsz := hB.size
    have hnab : ¬ (O ab ∨ ab = fb) := by
      rintro (e | e)
      · have := hOf _ e; omega
      · omega
    have hAr := HA.out.but hB hnab
    have hck0 := HCK.out
    by_cases hlt : (k : Int) < most
    · obtain ⟨m, hm2⟩ : ∃ m, most.toNat - k = m + 1 := ⟨most.toNat - k - 1, by omega⟩
      have hS := hidq (HST.out wr b fb Ok Pk Mk Fk hM hF hD hg (by omega))
      have hon := HFN.out.on Mk Fk hg
      have hcl := HFN.out.clock Mk Fk
      have HAL := hidq (fun r (hr : st Mk Fk = r) => (show alone st most.toNat M (Fr.of kind pri val d0 d1) = if r.2.2.2 = true then (r.1, r.2.2.1, true) else alone st m r.1 r.2.1 from by rw [hal.out, hm2, ← hr]; rfl))
      generalize hr : st Mk Fk = r at *
      obtain ⟨M', F', A, d⟩ := r
      have HAL2 := hidq (HAL.out _ rfl)
      have HM2 := hidq hm2
      have HCLK := hidq (And.intro hck hcl)
      have HON0 := hidq hon
      have HE := hidq (And.intro hfb (And.intro hab hz1))
      clear hM hF hr HAL hal hm2 hck hcl hck0 hon hfb hab hz1 hg
      go_wp2_with fail
      refine hS.out.mono ?_
      rintro e w2 ⟨rfl, O2, P2, hM2, hF2, hD2, hGO2, hGP2, hB2⟩
      have hs2 := hB2.size
      obtain ⟨hfb, hab, hz1⟩ := HE.out
      have hOk : ∀ j, Ok j → j ≠ ab := fun j hj e => by
        rcases hGO j hj with q | q
        · have := hOf _ q; omega
        · omega
      have hPk : ∀ j, Pk j → j ≠ ab := fun j hj e => by
        rcases hGP j hj with q | q
        · omega
        · omega
      have hA2 := hAr.but hB2 (fun e => by
        rcases e with e | e
        · exact hOk _ e rfl
        · exact hPk _ e rfl)
      have hBall : But (fun j => O j ∨ j = fb) W1 w2 := hB.then hB2 (fun j hj e => by
        rcases e with e | e
        · rcases hGO j e with q | q
          · exact .inl q
          · omega
        · rcases hGP j e with q | q
          · exact .inr q
          · omega)
      have hGO' := hGO.trans hGO2 hsz hs2
      have hGP' := hGP.trans hGP2 hsz hs2
      obtain ⟨g0, x0⟩ := hA2.get 0 _ rfl
      obtain ⟨g1, x1⟩ := hA2.get 1 _ rfl
      obtain ⟨g2, x2⟩ := hA2.get 2 _ rfl
      obtain ⟨g3, x3⟩ := hA2.get 3 _ rfl
      have hal2 := hA2.lt
      obtain ⟨aok, api, av, an⟩ := A
      dsimp only [Ans.v] at *
      cases d
      · have hon2 := HON0.out rfl
        have FIN := hidq (fun w4 (h4 : But (fun j => j = w2.heap.size) w2 w4) => (show MemAt w4 b O2 M' ∧ FrAt w4 fb P2 F' ∧ Grown O W1 w4 O2 ∧ Grown (fun j => j = fb) W1 w4 P2 ∧ But (fun j => O j ∨ j = fb) W1 w4 from by
          have hs4 := h4.size
          refine ⟨hM2.but h4 (fun j hj e => by have := hM2.lt j hj; omega), hF2.but h4 (fun j hj e => by have := hF2.lt j hj; omega), ?_, ?_, hBall.then h4 (fun j hj e => by omega)⟩
          · intro j hj
            rcases hGO' j hj with q | q
            · exact .inl q
            · exact .inr ⟨q.1, by omega⟩
          · intro j hj
            rcases hGP' j hj with q | q
            · exact .inl q
            · exact .inr ⟨q.1, by omega⟩))
        have HON := hidq hon2
        have HD2 := hidq hD2
        clear hM2 hF2 hB2 hB hBall hon2 hA2 hGO hGP hGO2 hGP2 hGO' hGP' hD hD2 hS hAr g0 x0 g1 x1 g2 x2 g3 x3 hfb hab hz1
        go_wp2
        go_roundw
        case rel =>
          obtain ⟨e1, e2, e3, e4, e5⟩ := FIN.out _ ((But.refl _ w2).alloc _)
          refine ⟨k + 1, M', F', O2, P2, by go_num, .inl (by omega), e1, e2, HD2.out, e3, e4, e5, HON.out, by have := HCLK.out; omega, hidq ?_⟩
          rw [HAL2.out, show most.toNat - (k + 1) = m by have := HM2.out; omega]
          rfl
        case measure => simp [intOf]; omega
      · have HAL3 : alone st most.toNat M (Fr.of kind pri val d0 d1) = (M', ⟨aok, api, av, an⟩, true) := by rw [HAL2.out]; rfl
        have HAL4 := hidq HAL3
        have FIN := hidq (fun w4 (h4 : But (fun j => j = w2.heap.size ∨ j = ab) w2 w4) => (show AEnd b O (M', ⟨aok, api, av, an⟩, true) w (.returned (.tuple #[(⟨aok, api, av, an⟩ : Ans).v, .bool true])) w4 from by
          have hs4 := h4.size
          refine ⟨rfl, O2, hM2.but h4 (fun j hj e => ?_), ?_, ?_⟩
          · rcases e with e | e
            · have := hM2.lt j hj; omega
            · subst e
              rcases hGO' _ hj with q | q
              · have := hOf _ q; omega
              · omega
          · intro j hj
            rcases hGO' j hj with q | q
            · exact .inl q
            · exact .inr ⟨by omega, by omega⟩
          · refine ((But.of_below HB.out).then hBall (fun j hj e => ?_)).then h4 (fun j hj e => by omega)
            rcases e with e | e
            · exact e
            · omega))
        have GA := hidq (fun o => (setBox_box (⟨aok, api, av, an⟩ : Ans).s hA2).below ((Below.refl _ _).alloc (Nat.le_refl _) o))
        clear hM2 hF2 hB2 hB hBall HAL2 HAL3 hA2 hGO hGP hGO2 hGP2 hGO' hGP' hD hD2 hS hAr HCLK HM2 hfb hz1
        go_wp2
        exact ret_ans (A := ⟨aok, api, av, an⟩) Try.results13 (GA.out _) rfl rfl rfl (by
          rw [HAL4.out]
          exact FIN.out _ ((((((But.refl _ w2).set1 _ _ (.inr rfl) _).set1 _ _ (.inr rfl) _).set1 _ _ (.inr rfl) _).set1 _ _ (.inr rfl) _).alloc _))
    · have hdl : decide ((k : Int) < most) = false := decide_eq_false hlt
      have hm0 : most.toNat - k = 0 := by omega
      have HAL : Hid (alone st most.toNat M (Fr.of kind pri val d0 d1) = (Mk, Ans.zero, false)) := hidq (by rw [hal.out, hm0]; rfl)
      have FIN := hidq (fun w4 (h4 : But (fun j => j = ab) wr w4) => (show AEnd b O (Mk, Ans.zero, false) w (.returned (.tuple #[Ans.zero.v, .bool false])) w4 from by
          have hs4 := h4.size
          refine ⟨rfl, Ok, hM.but h4 (fun j hj e => ?_), ?_, ?_⟩
          · subst e
            rcases hGO _ hj with q | q
            · have := hOf _ q; omega
            · omega
          · intro j hj
            rcases hGO j hj with q | q
            · exact .inl q
            · exact .inr ⟨by omega, by omega⟩
          · refine ((But.of_below HB.out).then hB (fun j hj e => ?_)).then h4 (fun j hj e => by omega)
            rcases e with e | e
            · exact e
            · omega))
      have GA := hidq (setBox_box Ans.zero.s hAr)
      obtain ⟨g0, x0⟩ := hAr.get 0 _ rfl
      obtain ⟨g1, x1⟩ := hAr.get 1 _ rfl
      obtain ⟨g2, x2⟩ := hAr.get 2 _ rfl
      obtain ⟨g3, x3⟩ := hAr.get 3 _ rfl
      clear hM hF hD hGO hGP hB hg hck hal hfb hab hz1 hsz hnab hAr hck0 hm0
      go_wp2
      exact ret_ans (A := Ans.zero) Try.results13 GA.out rfl rfl rfl (by
        rw [HAL.out]
        exact FIN.out _ (((((But.refl (fun j => j = ab) wr).set1 _ _ rfl _).set1 _ _ rfl _).set1 _ _ rfl _).set1 _ _ rfl _))
end Go.Proofs.Ytclcmabohpoaiaa

namespace Go.Proofs.Ytclcmabohpoaiaa
open Go.RowKit

theorem rinto_any (d n : Int) (w : World) (hn : n ≤ 9223372036854775807) :
    Calls Try.prog 8 #[.int .i64 d, .int .i64 n] w fun e w' => e = .returned (.int .i64 (into d n)) ∧ w' = w := by
  by_cases h : n < 1
  · rw [into_lo h]
    go_enter Try.func8, Try.ntmps8
    go_wp2
    go_ret
    exact ⟨rfl, rfl⟩
  · rw [into_hi h]
    have h1 : decide (n < 1) = false := decide_eq_false h
    have hn0 : (n == 0) = false := by simp; omega
    have hn1 : 1 ≤ n := by omega
    by_cases hm : d.tmod n < 0
    · have e1 := tmod_emod_neg hn1 hm
      have e2 := Int.lt_tmod_of_pos d (show 0 < n by omega)
      have hw : wrap64 (d.tmod n + n) = d % n := by unfold wrap64; omega
      have HW : Hid (∀ _ : Unit, wrap64 (d.tmod n + n) = d % n) := fun _ => hw
      clear e1 hw e2
      go_enter Try.func8, Try.ntmps8
      go_wp2
      go_ret
      exact ⟨by rw [← HW ()]; rfl, rfl⟩
    · have e1 : d.tmod n = d % n := tmod_emod_nonneg hn1 (by omega)
      have HW : Hid (∀ _ : Unit, d.tmod n = d % n) := fun _ => e1
      have hm1 : decide (d.tmod n < 0) = false := decide_eq_false hm
      clear e1
      go_enter Try.func8, Try.ntmps8
      go_wp2
      go_ret
      exact ⟨by rw [← HW ()]; rfl, rfl⟩

/-- The reference's Legal at a kind that is no Net. -/
theorem rlegal_any (k p : Int) (w : World) (hk : 1 ≤ k ∧ k ≤ 3) : Calls Try.prog 19 #[.int .i64 k, .int .i64 p] w fun e w' => e = .returned (.int .i64 (legal k p)) ∧ w' = w := by
  have hk1 : decide (k < 1) = false := decide_eq_false (by omega)
  have hk2 : decide (4 < k) = false := decide_eq_false (by omega)
  have hk4 : (k == 4) = false := by simp; omega
  by_cases hp : p < 1
  · rw [legal_par (by omega) (by omega)]
    clear hk
    go_enter Try.func19, Try.ntmps19
    go_wp2
    go_ret
    exact ⟨rfl, rfl⟩
  · have hp1 : decide (p < 1) = false := decide_eq_false hp
    by_cases hq : 16 < p
    · rw [legal_par (by omega) (by omega)]
      clear hk hp
      go_enter Try.func19, Try.ntmps19
      go_wp2
      go_ret
      exact ⟨rfl, rfl⟩
    · have hq1 : decide (16 < p) = false := decide_eq_false hq
      rw [legal_ok (by omega) (by omega) (by omega)]
      clear hk hp hq
      go_enter Try.func19, Try.ntmps19
      go_wp2
      go_ret
      exact ⟨rfl, rfl⟩
end Go.Proofs.Ytclcmabohpoaiaa

namespace Go.Proofs.Ytclcmabohpoaiaa
open Go.RowKit Go.Sort

theorem can_look {M : Mem} {k : Nat} (hk : k < 1000) : M.can (k : Int) (M.cell k).ver = true := can_yes hk rfl
theorem write_look {M : Mem} {k : Nat} (hk : k < 1000) (x : Int) (L : List It) : M.write (k : Int) (M.cell k).ver x L = M.put k x L := by
  unfold Mem.write; rw [if_pos (can_look hk)]; rfl

/-- An Insert alone. -/
theorem alone_ins (sh : Int) (hs : 1 ≤ sh ∧ sh ≤ 16) (M : Mem) (p n : Nat) (v d d1 : Int) (k : Nat) (hk : into d sh = (k : Int)) (hl : ¬ 62 ≤ (M.cell k).L.length) :
    alone (mStep sh) (n + 2) M (Fr.of 1 p v d d1) = (M.put k 0 (mWith (M.cell k).L p v), ⟨true, cbits p, v, 0⟩, true) := by
  have hr := into_rng (d := d) hs.1
  have hlk : M.look (into d sh) = M.cell k := by rw [hk, look_nat]
  have h1 : mStep sh M (Fr.of 1 p v d d1) = (M, { Fr.of 1 p v d d1 with c0 := M.cell k, pc := 2 }, Ans.zero, false) := by
    show insS sh M (Fr.of 1 p v d d1) = _
    rw [insS_read rfl (by show ¬ 62 ≤ (M.look (into d sh)).L.length; rw [hlk]; exact hl)]
    show (M, { Fr.of 1 p v d d1 with c0 := M.look (into d sh), pc := 2 }, Ans.zero, false) = _
    rw [hlk]
  rw [alone_on h1]
  have hc : M.can (into d sh) (M.cell k).ver = true := by rw [hk]; exact can_look (by omega)
  have h2 : mStep sh M { Fr.of 1 p v d d1 with c0 := M.cell k, pc := 2 } = (M.put k 0 (mWith (M.cell k).L p v), { Fr.of 1 p v d d1 with c0 := M.cell k }, ⟨true, cbits p, v, 0⟩, true) := by
    show insS sh M { Fr.of 1 p v d d1 with c0 := M.cell k, pc := 2 } = _
    rw [insS_write (by show (2 : Int) ≠ 0; decide) hc]
    show (M.write (into d sh) (M.cell k).ver 0 (mWith (M.cell k).L p v), _, _, _) = _
    rw [hk, write_look (by omega)]
    rfl
  exact alone_done h2
theorem alone_ins_full (sh : Int) (M : Mem) (p n : Nat) (v d d1 : Int) (k : Nat) (hk : into d sh = (k : Int)) (hl : 62 ≤ (M.cell k).L.length) :
    alone (mStep sh) (n + 1) M (Fr.of 1 p v d d1) = (M, Ans.zero, true) := by
  have hlk : M.look (into d sh) = M.cell k := by rw [hk, look_nat]
  have h1 : mStep sh M (Fr.of 1 p v d d1) = (M, { Fr.of 1 p v d d1 with c0 := M.look (into d sh) }, Ans.zero, true) := by
    show insS sh M (Fr.of 1 p v d d1) = _
    exact insS_full rfl (by show 62 ≤ (M.look (into d sh)).L.length; rw [hlk]; exact hl)
  exact alone_done h1
/-- A Delete alone. -/
theorem alone_del_none (sh : Int) (M : Mem) (p n : Nat) (v d d1 : Int) (k k1 : Nat) (hk : into d sh = (k : Int)) (hk1 : into d1 sh = (k1 : Int)) (hm : (mAhead (kis (M.cell k).L) (kis (M.cell k1).L)).2 = false) :
    alone (mStep sh) (n + 2) M (Fr.of 2 p v d d1) = (M, Ans.zero, true) := by
  have hlk : M.look (into d sh) = M.cell k := by rw [hk, look_nat]
  have hlk1 : M.look (into d1 sh) = M.cell k1 := by rw [hk1, look_nat]
  have h1 : mStep sh M (Fr.of 2 p v d d1) = (M, { Fr.of 2 p v d d1 with c0 := M.cell k, pc := 1 }, Ans.zero, false) := by
    show remS sh M (Fr.of 2 p v d d1) = _
    rw [remS_0 rfl]
    show (M, { Fr.of 2 p v d d1 with c0 := M.look (into d sh), pc := 1 }, Ans.zero, false) = _
    rw [hlk]
  rw [alone_on h1]
  have h2 : mStep sh M { Fr.of 2 p v d d1 with c0 := M.cell k, pc := 1 } = (M, { Fr.of 2 p v d d1 with c0 := M.cell k, pc := 1, c1 := M.look (into d1 sh) }, Ans.zero, true) := by
    show remS sh M { Fr.of 2 p v d d1 with c0 := M.cell k, pc := 1 } = _
    exact remS_1f rfl (by show (mAhead (kis (M.cell k).L) (kis (M.look (into d1 sh)).L)).2 = false; rw [hlk1]; exact hm)
  exact alone_done h2
theorem alone_del (sh : Int) (hs : 1 ≤ sh ∧ sh ≤ 16) (M : Mem) (p n : Nat) (v d d1 : Int) (k k1 : Nat) (x : KI) (K : List KI) (hk : into d sh = (k : Int)) (hk1 : into d1 sh = (k1 : Int)) (j : Nat)
    (hm : (mAhead (kis (M.cell k).L) (kis (M.cell k1).L) = (0, true) ∧ kis (M.cell k).L = x :: K ∧ j = k) ∨ (mAhead (kis (M.cell k).L) (kis (M.cell k1).L) = (1, true) ∧ kis (M.cell k1).L = x :: K ∧ j = k1)) :
    alone (mStep sh) (n + 3) M (Fr.of 2 p v d d1) = (M.put j 0 (kit K), ⟨true, x.b, x.v, 0⟩, true) := by
  have hr := into_rng (d := d) hs.1
  have hr1 := into_rng (d := d1) hs.1
  have hlk : M.look (into d sh) = M.cell k := by rw [hk, look_nat]
  have hlk1 : M.look (into d1 sh) = M.cell k1 := by rw [hk1, look_nat]
  have hm2 : (mAhead (kis (M.cell k).L) (kis (M.cell k1).L)).2 = true := by rcases hm with ⟨h, _⟩ | ⟨h, _⟩ <;> rw [h]
  have h1 : mStep sh M (Fr.of 2 p v d d1) = (M, { Fr.of 2 p v d d1 with c0 := M.cell k, pc := 1 }, Ans.zero, false) := by
    show remS sh M (Fr.of 2 p v d d1) = _
    rw [remS_0 rfl]
    show (M, { Fr.of 2 p v d d1 with c0 := M.look (into d sh), pc := 1 }, Ans.zero, false) = _
    rw [hlk]
  rw [show n + 3 = (n + 2) + 1 by omega, alone_on h1]
  have h2 : mStep sh M { Fr.of 2 p v d d1 with c0 := M.cell k, pc := 1 } = (M, { Fr.of 2 p v d d1 with c0 := M.cell k, c1 := M.cell k1, pc := 2 }, Ans.zero, false) := by
    show remS sh M { Fr.of 2 p v d d1 with c0 := M.cell k, pc := 1 } = _
    rw [remS_1t rfl (by show (mAhead (kis (M.cell k).L) (kis (M.look (into d1 sh)).L)).2 = true; rw [hlk1]; exact hm2)]
    show (M, { Fr.of 2 p v d d1 with c0 := M.cell k, c1 := M.look (into d1 sh), pc := 2 }, Ans.zero, false) = _
    rw [hlk1]
  rw [show n + 2 = (n + 1) + 1 by omega, alone_on h2]
  rcases hm with ⟨hma, hK, rfl⟩ | ⟨hma, hK, rfl⟩
  · have hc : M.can (into d sh) (M.cell j).ver = true := by rw [hk]; exact can_look (by omega)
    have h3 : mStep sh M { Fr.of 2 p v d d1 with c0 := M.cell j, c1 := M.cell k1, pc := 2 } = (M.put j 0 (kit K), { Fr.of 2 p v d d1 with c0 := M.cell j, c1 := M.cell k1 }, ⟨true, x.b, x.v, 0⟩, true) := by
      show remS sh M { Fr.of 2 p v d d1 with c0 := M.cell j, c1 := M.cell k1, pc := 2 } = _
      rw [remS_2a (x := x) (K := K) (by show (2 : Int) ≠ 0; decide) (by show (2 : Int) ≠ 1; decide) (by show (mAhead (kis (M.cell j).L) (kis (M.cell k1).L)).1 = 0; rw [hma]) hK]
      show (M.write (into d sh) (M.cell j).ver 0 (kit K), _, (if M.can (into d sh) (M.cell j).ver = true then (⟨true, x.b, x.v, 0⟩ : Ans) else Ans.zero), M.can (into d sh) (M.cell j).ver) = _
      rw [if_pos hc, hc, hk, write_look (by omega)]
      rfl
    exact alone_done h3
  · have hc : M.can (into d1 sh) (M.cell j).ver = true := by rw [hk1]; exact can_look (by omega)
    have h3 : mStep sh M { Fr.of 2 p v d d1 with c0 := M.cell k, c1 := M.cell j, pc := 2 } = (M.put j 0 (kit K), { Fr.of 2 p v d d1 with c0 := M.cell k, c1 := M.cell j }, ⟨true, x.b, x.v, 0⟩, true) := by
      show remS sh M { Fr.of 2 p v d d1 with c0 := M.cell k, c1 := M.cell j, pc := 2 } = _
      rw [remS_2b (x := x) (K := K) (by show (2 : Int) ≠ 0; decide) (by show (2 : Int) ≠ 1; decide) (by show (mAhead (kis (M.cell k).L) (kis (M.cell j).L)).1 = 1; rw [hma]) hK]
      show (M.write (into d1 sh) (M.cell j).ver 0 (kit K), _, (if M.can (into d1 sh) (M.cell j).ver = true then (⟨true, x.b, x.v, 0⟩ : Ans) else Ans.zero), M.can (into d1 sh) (M.cell j).ver) = _
      rw [if_pos hc, hc, hk1, write_look (by omega)]
      rfl
    exact alone_done h3

theorem fok_new (kind : Int) (p : Nat) (v d d1 : Int) (h : (kind = 1 ∧ p < 18446744073709551616) ∨ kind = 2) : FOk (Fr.of kind p v d d1) :=
  ⟨KOk.nil _, KOk.nil _, h.imp (fun ⟨a, b⟩ => ⟨a, b, fun e => absurd rfl e⟩) (fun a => ⟨a, fun e => absurd rfl e⟩)⟩

/-- An Insert, and what it leaves. -/
theorem insert_any (sh : Int) (hs : 1 ≤ sh ∧ sh ≤ 16) (b : Nat) (O : Nat → Prop) (M : Mem) (p : Nat) (v d d1 most : Int) (k : Nat) (hk : into d sh = (k : Int)) (w : World) (h : MemAt w b O M) (hM : MOk M) (hp : p < 18446744073709551616) (hl : (M.cell k).L.length ≤ 61) (hm : 2 ≤ most ∧ most ≤ 1000) (hck : M.clock < 4611686018427386000) :
    Calls Try.prog 13 #[.iface 26 (.agg #[.int .i64 sh]), .pointer (some ⟨b, 0, none⟩), .agg #[.int .i64 1, .float .f64 p, .int .i64 v, .int .i64 d, .int .i64 d1], .int .i64 most] w fun e w' =>
      e = .returned (.tuple #[.agg #[.bool true, .float .f64 (cbits p), .int .i64 v, .int .i64 0], .bool true]) ∧ ∃ O', MemAt w' b O' (M.put k 0 (mWith (M.cell k).L p v)) ∧ Grown O w w' O' ∧ But O w w' := by
  have := aloneM_any sh (mstep_is sh hs) (mFine sh) b O M 1 p v d d1 most w h ⟨hM, fok_new _ _ _ _ _ (.inl ⟨rfl, hp⟩)⟩ hm.2 hck
  rw [show most.toNat = (most.toNat - 2) + 2 by omega, alone_ins sh hs M p _ v d d1 k hk (by omega)] at this
  exact this
theorem insertFull_any (sh : Int) (hs : 1 ≤ sh ∧ sh ≤ 16) (b : Nat) (O : Nat → Prop) (M : Mem) (p : Nat) (v d d1 most : Int) (k : Nat) (hk : into d sh = (k : Int)) (w : World) (h : MemAt w b O M) (hM : MOk M) (hp : p < 18446744073709551616) (hl : 62 ≤ (M.cell k).L.length) (hm : 2 ≤ most ∧ most ≤ 1000) (hck : M.clock < 4611686018427386000) :
    Calls Try.prog 13 #[.iface 26 (.agg #[.int .i64 sh]), .pointer (some ⟨b, 0, none⟩), .agg #[.int .i64 1, .float .f64 p, .int .i64 v, .int .i64 d, .int .i64 d1], .int .i64 most] w fun e w' =>
      e = .returned (.tuple #[.agg #[.bool false, .float .f64 0, .int .i64 0, .int .i64 0], .bool true]) ∧ ∃ O', MemAt w' b O' M ∧ Grown O w w' O' ∧ But O w w' := by
  have := aloneM_any sh (mstep_is sh hs) (mFine sh) b O M 1 p v d d1 most w h ⟨hM, fok_new _ _ _ _ _ (.inl ⟨rfl, hp⟩)⟩ hm.2 hck
  rw [show most.toNat = (most.toNat - 1) + 1 by omega, alone_ins_full sh M p _ v d d1 k hk hl] at this
  exact this
/-- A Delete, and what it leaves. -/
theorem deleteNone_any (sh : Int) (hs : 1 ≤ sh ∧ sh ≤ 16) (b : Nat) (O : Nat → Prop) (M : Mem) (p : Nat) (v d d1 most : Int) (k k1 : Nat) (hk : into d sh = (k : Int)) (hk1 : into d1 sh = (k1 : Int)) (w : World) (h : MemAt w b O M) (hM : MOk M) (hl : (mAhead (kis (M.cell k).L) (kis (M.cell k1).L)).2 = false) (hm : 3 ≤ most ∧ most ≤ 1000) (hck : M.clock < 4611686018427386000) :
    Calls Try.prog 13 #[.iface 26 (.agg #[.int .i64 sh]), .pointer (some ⟨b, 0, none⟩), .agg #[.int .i64 2, .float .f64 p, .int .i64 v, .int .i64 d, .int .i64 d1], .int .i64 most] w fun e w' =>
      e = .returned (.tuple #[.agg #[.bool false, .float .f64 0, .int .i64 0, .int .i64 0], .bool true]) ∧ ∃ O', MemAt w' b O' M ∧ Grown O w w' O' ∧ But O w w' := by
  have := aloneM_any sh (mstep_is sh hs) (mFine sh) b O M 2 p v d d1 most w h ⟨hM, fok_new _ _ _ _ _ (.inr rfl)⟩ hm.2 hck
  rw [show most.toNat = (most.toNat - 2) + 2 by omega, alone_del_none sh M p _ v d d1 k k1 hk hk1 hl] at this
  exact this
theorem delete_any (sh : Int) (hs : 1 ≤ sh ∧ sh ≤ 16) (b : Nat) (O : Nat → Prop) (M : Mem) (p : Nat) (v d d1 most : Int) (k k1 : Nat) (x : KI) (K : List KI) (j : Nat) (hk : into d sh = (k : Int)) (hk1 : into d1 sh = (k1 : Int)) (w : World) (h : MemAt w b O M) (hM : MOk M)
    (hl : (mAhead (kis (M.cell k).L) (kis (M.cell k1).L) = (0, true) ∧ kis (M.cell k).L = x :: K ∧ j = k) ∨ (mAhead (kis (M.cell k).L) (kis (M.cell k1).L) = (1, true) ∧ kis (M.cell k1).L = x :: K ∧ j = k1)) (hm : 3 ≤ most ∧ most ≤ 1000) (hck : M.clock < 4611686018427386000) :
    Calls Try.prog 13 #[.iface 26 (.agg #[.int .i64 sh]), .pointer (some ⟨b, 0, none⟩), .agg #[.int .i64 2, .float .f64 p, .int .i64 v, .int .i64 d, .int .i64 d1], .int .i64 most] w fun e w' =>
      e = .returned (.tuple #[.agg #[.bool true, .float .f64 x.b, .int .i64 x.v, .int .i64 0], .bool true]) ∧ ∃ O', MemAt w' b O' (M.put j 0 (kit K)) ∧ Grown O w w' O' ∧ But O w w' := by
  have := aloneM_any sh (mstep_is sh hs) (mFine sh) b O M 2 p v d d1 most w h ⟨hM, fok_new _ _ _ _ _ (.inr rfl)⟩ hm.2 hck
  rw [show most.toNat = (most.toNat - 3) + 3 by omega, alone_del sh hs M p _ v d d1 k k1 x K hk hk1 j hl] at this
  exact this

theorem mnew_any (sh : Int) (w : World) : Calls Try.prog 9 #[.int .i64 sh] w fun e w' => e = .returned (.tuple #[.agg #[.int .i64 (if legal 1 sh = 0 then sh else 0)], .int .i64 (legal 1 sh)]) ∧ Below w.heap.size w w' := by
  have hL := fun w => legal_any 1 sh w
  obtain ⟨r, hr⟩ : ∃ r, legal 1 sh = r := ⟨_, rfl⟩
  rw [hr] at hL ⊢
  have hb0 : BoxAt (w.alloc (.cells #[.int .i64 0] 26)) w.heap.size [.int .i64 0] := BoxAt.new w [.int .i64 0] 26
  by_cases h0 : r = 0
  · rw [if_pos h0]
    subst h0
    clear hr
    go_enter Try.func9, Try.ntmps9
    go_wp2_with fail
    refine (hL _).mono ?_
    rintro e w2 ⟨rfl, hb⟩
    have hb2 := hb0.below hb
    obtain ⟨g0, x0⟩ := hb2.get 0 _ rfl
    have hsz := hb.size
    have HB := hidq (show Below w.heap.size w w2 from ((Below.refl _ _).alloc (Nat.le_refl _) _).trans (hb.mono (by simp)))
    clear hb hb0 hb2 hL
    go_wp2
    refine bodyPost_ret (v := .tuple #[.agg #[.int .i64 sh], .int .i64 0]) ?_ rfl ⟨rfl, HB.out.setCell (Nat.le_refl _) _⟩
    simp [results, Try.results9, go_sem, World.cell?_setCell_same', g0]
  · rw [if_neg h0]
    have hr0 : (r == 0) = false := by simpa using h0
    clear hr h0
    go_enter Try.func9, Try.ntmps9
    go_wp2_with fail
    refine (hL _).mono ?_
    rintro e w2 ⟨rfl, hb⟩
    have hb2 := hb0.below hb
    obtain ⟨g0, x0⟩ := hb2.get 0 _ rfl
    have hsz := hb.size
    have HB := hidq (show Below w.heap.size w w2 from ((Below.refl _ _).alloc (Nat.le_refl _) _).trans (hb.mono (by simp)))
    clear hb hb0 hb2 hL
    go_wp2
    refine bodyPost_ret (v := .tuple #[.agg #[.int .i64 0], .int .i64 r]) ?_ rfl ⟨rfl, HB.out.setCell (Nat.le_refl _) _⟩
    simp [results, Try.results9, go_sem, World.cell?_setCell_same', g0]
end Go.Proofs.Ytclcmabohpoaiaa

namespace Go.Proofs.Ytclcmabohpoaiaa
open Go.RowKit Go.Sort
namespace Ar

theorem getD_false {L : Array Bool} {i : Nat} (h : L.getD i true = false) : L.getD i false = false := by
  rw [Array.getD_eq_getD_getElem?] at *
  cases e : L[i]? with
  | none => simp
  | some b => rw [e] at h; simpa using h
theorem getD_set_ne {L : Array Bool} {k j : Nat} (h : j ≠ k) : (L.setIfInBounds k true).getD j false = L.getD j false := by
  rw [Array.getD_eq_getD_getElem?, Array.getD_eq_getD_getElem?, Array.getElem?_setIfInBounds, if_neg (fun e => h e.symm)]
theorem getD_set_same {L : Array Bool} {k : Nat} (h : L.getD k true = false) : (L.setIfInBounds k true).getD k false = true := by
  have hk : k < L.size := by
    rcases Nat.lt_or_ge k L.size with e | e
    · exact e
    · rw [Array.getD_eq_getD_getElem?, Array.getElem?_eq_none e] at h; cases h
  rw [Array.getD_eq_getD_getElem?, Array.getElem?_setIfInBounds, if_pos rfl, if_pos hk]; rfl
theorem out_skip {P : Program} {K : Value → World → Prop} {ev : Operand → Value} {o : Oper} {w w' : World} (hrun : (execOp ev o).run P w = .ok .skip w') (hk : K undef w') : Reg.Outcome P K ((execOp ev o).run P w) := by
  rw [hrun]; exact hk

/-- What the memory owns; where the answer's box lies. -/
abbrev Gh := (Nat → Prop) × Option Nat
def Pres (x : Gh) (_ : World) (x' : Gh) (_ : World) : Prop := ∀ b, x.2 = some b → x'.2 = some b
theorem Pres.refl (x : Gh) (w w' : World) : Pres x w x w' := fun _ h => h

/-- While it goes on: iA is the operation's number, iL the box's, iS the store's. -/
structure GI (w0 wS : World) (OS : Nat → Prop) (sb : Nat) (ls : List Value) (mb : Nat) (M0 M1 : Mem) (A : Ans) (iA iL iS : Nat) (x : Gh) (L : Array Bool) (w : World) : Prop where
  st : St w0 w sb ls mb x.1 (if L.getD iA false = true then M1 else M0)
  no : L.getD iL false = false → x.2 = none
  yes : L.getD iL false = true → ∃ bx, x.2 = some bx
  chg : But OS wS w
  grow : Grown OS wS w x.1
  box : ∀ bx, x.2 = some bx → wS.heap.size ≤ bx ∧ w0.heap.size ≤ bx ∧ ¬ x.1 bx ∧ bx ≠ sb ∧ BoxAt w bx (if L.getD iS false = true then A.l else Ans.zero.l)
section
variable {w0 wS : World} {OS : Nat → Prop} {sb mb iA iL iS : Nat} {ls : List Value} {M0 M1 : Mem} {A : Ans} {x : Gh} {L : Array Bool} {w w' : World} {O : Nat → Prop}
theorem GI.start (h : St w0 w sb ls mb O M0) (n : Nat) : GI w0 w O sb ls mb M0 M1 A iA iL iS (O, none) (Array.replicate n false) w.drew := by
  have hz : ∀ i, (Array.replicate n false).getD i false = false := fun i => by
    rw [Array.getD_eq_getD_getElem?, Array.getElem?_replicate]
    split <;> rfl
  refine ⟨?_, fun _ => rfl, fun e => ?_, (But.refl _ _).drew, Grown.refl _ _ _, fun bx hx => by cases hx⟩
  · rw [hz]; exact h.below (Below.refl _ _).drew
  · rw [hz] at e; cases e
theorem GI.quiet (h : GI w0 wS OS sb ls mb M0 M1 A iA iL iS x L w) (i : Nat) (h1 : iA ≠ i) (h2 : iL ≠ i) (h3 : iS ≠ i) : GI w0 wS OS sb ls mb M0 M1 A iA iL iS x (L.setIfInBounds i true) w := by
  refine ⟨?_, ?_, ?_, h.chg, h.grow, ?_⟩
  · rw [getD_set_ne h1]; exact h.st
  · rw [getD_set_ne h2]; exact h.no
  · rw [getD_set_ne h2]; exact h.yes
  · rw [getD_set_ne h3]; exact h.box
theorem GI.below (h : GI w0 wS OS sb ls mb M0 M1 A iA iL iS x L w) (hb : Below w.heap.size w w') : GI w0 wS OS sb ls mb M0 M1 A iA iL iS x L w' :=
  ⟨h.st.below hb, h.no, h.yes, h.chg.trans (But.of_below hb), fun k hk => (h.grow k hk).imp id (fun q => ⟨q.1, Nat.lt_of_lt_of_le q.2 hb.size⟩), fun bx hx => ⟨(h.box bx hx).1, (h.box bx hx).2.1, (h.box bx hx).2.2.1, (h.box bx hx).2.2.2.1, (h.box bx hx).2.2.2.2.below hb⟩⟩
theorem GI.mem0 (h : GI w0 wS OS sb ls mb M0 M1 A iA iL iS x L w) (hk : L.getD iA true = false) : MemAt w mb x.1 M0 := by
  have := h.st.mem
  rw [getD_false hk] at this
  exact this
theorem GI.call (h : GI w0 wS OS sb ls mb M0 M1 A iA iL iS x L w) (hk : L.getD iA true = false) (h2 : iL ≠ iA) (h3 : iS ≠ iA) {O' : Nat → Prop} (hM : MemAt w' mb O' M1) (hG : Grown x.1 w w' O') (hB : But x.1 w w') :
    GI w0 wS OS sb ls mb M0 M1 A iA iL iS (O', x.2) (L.setIfInBounds iA true) w' := by
  refine ⟨?_, ?_, ?_, h.chg.then hB (fun k hk e => (h.grow k e).elim id (fun q => by omega)), h.grow.trans hG h.chg.size hB.size, ?_⟩
  · rw [getD_set_same hk, if_pos rfl]
    exact h.st.call hM hG hB
  · rw [getD_set_ne h2]; exact h.no
  · rw [getD_set_ne h2]; exact h.yes
  · rw [getD_set_ne h3]
    intro bx hx
    obtain ⟨a0, a, b, c, d⟩ := h.box bx hx
    refine ⟨a0, a, fun e => ?_, c, d.but hB b⟩
    rcases hG bx e with q | q
    · exact b q
    · have := d.lt; omega
theorem GI.alloc (h : GI w0 wS OS sb ls mb M0 M1 A iA iL iS x L w) (hk : L.getD iL true = false) (hS : L.getD iS false = false) (h1 : iA ≠ iL) (h3 : iS ≠ iL) (t : TypeId) :
    GI w0 wS OS sb ls mb M0 M1 A iA iL iS (x.1, some w.heap.size) (L.setIfInBounds iL true) (w.alloc (.cells Ans.zero.l.toArray t)) := by
  refine ⟨?_, ?_, ?_, h.chg.alloc _, fun k hk => (h.grow k hk).imp id (fun q => ⟨q.1, by rw [World.size_alloc]; omega⟩), ?_⟩
  · rw [getD_set_ne h1]; exact h.st.alloc _
  · rw [getD_set_same hk]; intro e; cases e
  · intro _; exact ⟨_, rfl⟩
  · intro bx hx
    cases hx
    rw [getD_set_ne h3, hS]
    refine ⟨h.chg.size, h.st.low.size, fun e => ?_, fun e => ?_, BoxAt.new w Ans.zero.l t⟩
    · have := h.st.mem.lt _ e; omega
    · have := h.st.box.lt; omega
theorem GI.store (h : GI w0 wS OS sb ls mb M0 M1 A iA iL iS x L w) (hk : L.getD iS true = false) (h1 : iA ≠ iS) (h2 : iL ≠ iS) {bx : Nat} (hx : x.2 = some bx) : GI w0 wS OS sb ls mb M0 M1 A iA iL iS x (L.setIfInBounds iS true) (setBox w bx A.s) := by
  obtain ⟨a0, a, b, c, d⟩ := h.box bx hx
  rw [getD_false hk] at d
  have hb := setBox_but bx A.s w
  refine ⟨?_, ?_, ?_, h.chg.then hb (fun k hk e => by omega), fun k hk => (h.grow k hk).imp id (fun q => ⟨q.1, by rw [setBox_size]; exact q.2⟩), ?_⟩
  · rw [getD_set_ne h1]
    exact ⟨h.st.mem.but hb (fun k hk e => b (e ▸ hk)), h.st.own, h.st.box.but hb (fun e => c e.symm), h.st.low.trans (hb.below h.st.low.size (fun k e => by omega))⟩
  · rw [getD_set_ne h2]; exact h.no
  · rw [getD_set_ne h2]; exact h.yes
  · intro by_ hy
    rw [hx] at hy
    cases hy
    rw [getD_set_same hk, if_pos rfl]
    exact ⟨a0, a, b, c, setBox_box A.s d⟩
end
end Ar
end Go.Proofs.Ytclcmabohpoaiaa

namespace Go.Proofs.Ytclcmabohpoaiaa
open Go.RowKit Go.Sort

theorem run_equalIn_flt8 {P : Program} (d : Nat) (t : TypeId) (a b : Nat) (w : World) (h : P.underlying t = some (.float .f64)) : (Op.equalIn (d + 1) t (.float .f64 a) (.float .f64 b)).run P w = .ok (Op.floatEq .f64 a b) w := by
  simp [Op.equalIn, run_underlying h]

def a8 : KI := mkKI 4607182418800017408 3
def b8 : KI := mkKI 4611686018427387904 0
theorem a8_b : a8.b = 4607182418800017408 := by unfold a8; rw [mkKI_b (by decide)]; decide
theorem a8_v : a8.v = 3 := by unfold a8; rw [mkKI_v (by decide)]
theorem w8_1 : mWith [] 4611686018427387904 0 = kit [b8] := by
  unfold mWith
  show kit (srt (b8 :: [])) = _
  rw [srt_self (List.pairwise_singleton _ _)]
theorem w8_2 : mWith (kit [b8]) 4607182418800017408 3 = kit [a8, b8] := by
  unfold mWith
  rw [kis_kit]
  show kit (srt [a8, b8]) = _
  rw [srt_self (List.pairwise_cons.2 ⟨fun z hz => by rw [List.mem_singleton.1 hz]; decide, List.pairwise_singleton _ _⟩)]

set_option maxHeartbeats 4000000 in
theorem awake8_any (w : World) : Calls Try.prog 7 #[] w fun e w' => e = .returned (.bool true) ∧ Below w.heap.size w w' := by
  have hN := fun w => mnew_any 2 w
  rw [show (if legal 1 2 = 0 then (2 : Int) else 0) = 2 by decide, show legal 1 2 = 0 by decide] at hN
  have hef := fun d a b w => run_equalIn_flt8 (P := Try.prog) d 33 a b w Try.underlying33
  have hq0 : Op.floatEq .f64 4607182418800017408 4607182418800017408 = true := by decide
  have hsf := run_store_flt (P := Try.prog)
  go_enter Try.func7, Try.ntmps7
  go_wp2_with fail
  refine (hN _).mono ?_
  rintro e w1 ⟨rfl, hb1⟩
  have hB1 : BoxAt (w1.alloc (.cells #[.int .i64 2] 26)) w1.heap.size [.int .i64 2] := BoxAt.new w1 [.int .i64 2] 26
  go_wp2_with fail
  refine (new5_any _).mono ?_
  rintro e w3 ⟨rfl, hM3, hb3⟩
  have hB3 := hB1.below hb3
  obtain ⟨mb, hmb⟩ : ∃ mb, (w1.alloc (.cells #[.int .i64 2] 26)).heap.size = mb := ⟨_, rfl⟩
  rw [hmb] at hM3 ⊢
  have hS0 : St w w3 w1.heap.size [.int .i64 2] mb (fun k => k = mb) Mem.empty := by
    have s1 := hb1.size
    have s4 : mb = w1.heap.size + 1 := by rw [← hmb]; simp
    exact ⟨hM3, fun k e => by omega, hB3, (hb1.trans ((Below.refl _ _).alloc s1 _)).trans (hb3.mono (by omega))⟩
  have HS0 := hidq hS0
  have r0 := (hS0.box.get 0 _ rfl).1
  clear hB1 hB3 hb1 hb3 hM3 hN hmb hS0
  go_wp2_with fail
  refine (insert_any 2 (by decide) mb _ Mem.empty 4611686018427387904 0 0 0 9 0 (by decide) _ HS0.out.mem MOk.empty (by decide) (by decide) (by decide) (by decide)).mono ?_
  rintro e w4 ⟨rfl, O4, hM4, hG4, hB4⟩
  rw [show mWith (Mem.empty.cell 0).L 4611686018427387904 0 = kit [b8] from w8_1] at hM4
  have HS4 := hidq (HS0.out.call hM4 hG4 hB4)
  have r4 := (HS4.out.box.get 0 _ rfl).1
  clear hM4 hG4 hB4 HS0 r0
  have hk1 : KOk 62 (kit [b8]) := ⟨_, rfl, List.pairwise_singleton _ _, by decide⟩
  have hok4 : MOk (Mem.empty.put 0 0 (kit [b8])) := fun i => by
    show KOk 62 (if i = 0 then (⟨_, 0, kit [b8]⟩ : CV) else CV.zero).L
    split
    · exact hk1
    · exact KOk.nil _
  go_wp2_with fail
  refine (insert_any 2 (by decide) mb _ (Mem.empty.put 0 0 (kit [b8])) 4607182418800017408 3 0 0 9 0 (by decide) _ HS4.out.mem hok4 (by decide) (by show (kit [b8]).length ≤ 61; rw [kit_length]; decide) (by decide) (by decide)).mono ?_
  rintro e w5 ⟨rfl, O5, hM5, hG5, hB5⟩
  rw [show mWith ((Mem.empty.put 0 0 (kit [b8])).cell 0).L 4607182418800017408 3 = kit [a8, b8] from w8_2] at hM5
  have HS5 := hidq (HS4.out.call hM5 hG5 hB5)
  have r5 := (HS5.out.box.get 0 _ rfl).1
  clear hM5 hG5 hB5 HS4 r4
  have hio : InOrder [a8, b8] := List.pairwise_cons.2 ⟨fun z hz => by rw [List.mem_singleton.1 hz]; decide, List.pairwise_singleton _ _⟩
  have hok5 : MOk ((Mem.empty.put 0 0 (kit [b8])).put 0 0 (kit [a8, b8])) := fun i => by
    show KOk 62 (if i = 0 then (⟨_, 0, kit [a8, b8]⟩ : CV) else (Mem.empty.put 0 0 (kit [b8])).cell i).L
    split
    · exact ⟨_, rfl, hio, by decide⟩
    · exact hok4 i
  have hD := delete_any 2 (by decide) mb O5 ((Mem.empty.put 0 0 (kit [b8])).put 0 0 (kit [a8, b8])) 0 0 0 1 9 0 1 a8 [b8] 0 (by decide) (by decide) w5 HS5.out.mem hok5 (.inl ⟨by
    show mAhead (kis (kit [a8, b8])) (kis (CV.zero).L) = (0, true)
    rw [kis_kit]; rfl, kis_kit _, rfl⟩) (by decide) (by decide)
  rw [a8_b, a8_v] at hD
  have HD := hidq hD
  clear hD hok5 hok4 hk1 hio
  go_wp2_with fail
  refine HD.out.mono ?_
  rintro e w6 ⟨rfl, O6, hM6, hG6, hB6⟩
  have HB := hidq ((HS5.out.call hM6 hG6 hB6).alloc (.cells #[.bool true, .float .f64 4607182418800017408, .int .i64 3, .int .i64 0] 48)).low
  clear hM6 hG6 hB6 HD HS5 r5
  go_wp2
  go_ret
  exact ⟨rfl, HB.out⟩
end Go.Proofs.Ytclcmabohpoaiaa

namespace Go.Proofs.Ytclcmabohpoaiaa
open Go.RowKit

theorem rof_any (k : Int) (w : World) : Calls Try.prog 26 #[.int .i64 k] w fun e w' => e = .returned (.tuple #[.int .i64 (opFrom k), .int .i64 (opTo k)]) ∧ w' = w := by
  rcases kinds k with rfl | rfl | rfl | rfl | h
  · go_enter Try.func26, Try.ntmps26
    go_wp2
    go_ret2
    exact ⟨rfl, rfl⟩
  · go_enter Try.func26, Try.ntmps26
    go_wp2
    go_ret2
    exact ⟨rfl, rfl⟩
  · go_enter Try.func26, Try.ntmps26
    go_wp2
    go_ret2
    exact ⟨rfl, rfl⟩
  · go_enter Try.func26, Try.ntmps26
    go_wp2
    go_ret2
    exact ⟨rfl, rfl⟩
  · rw [(opl_none h).2.1, (opl_none h).2.2]
    obtain ⟨h1, h2, h3, h4⟩ := h
    go_enter Try.func26, Try.ntmps26
    go_wp2
    go_ret2
    exact ⟨rfl, rfl⟩
end Go.Proofs.Ytclcmabohpoaiaa
