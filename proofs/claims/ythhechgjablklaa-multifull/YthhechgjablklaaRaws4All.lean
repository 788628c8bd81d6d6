/-
  Layer 6: an operation that nobody disturbs, on one machine: contract.
  Layer 6's reference: draws, parameters: contracts.
  Layer 8: what a Multi's operations come to, alone; New; the answers that the document fixes.
  An operation alone within a statement that draws its order: the machine in its box, the memory, and a new box for the answer.
  Layer 8: the answers that the document fixes.
  Layer 8's law of a full shard: the call returns true.
  Items in the making, as an argument; as the program's, as the document's.
-/
import Derived.Test.YthhechgjablklaaAloneG6All
import Derived.Test.YthhechgjablklaaMultiStep8All
import Derived.Test.YthhechgjablklaaFits5All
import Derived.Test.YthhechgjablklaaFlat4All
namespace Go.Proofs.Ythhechgjablklaa
open Go.RowKit Go.Sort

set_option maxHeartbeats 4000000 in
theorem aloneM_any (sh : Int) {G : Mem → Fr → Prop} {st : StepFn} (hst : IsStep 142 (.agg #[.int .i64 sh]) G st) (hfn : Fine G st)
    (b : Nat) (O : Nat → Prop) (M : Mem) (kind : Int) (pri : Nat) (val d0 d1 most : Int) (w : World) (h : MemAt w b O M) (hg : G M (Fr.of kind pri val d0 d1)) (hm : most ≤ 1000) (hck : M.clock < 4611686018427386000) :
    Calls Try.prog 50 #[.iface 114 (.agg #[.int .i64 sh]), .pointer (some ⟨b, 0, none⟩), .agg #[.int .i64 kind, .float .f64 pri, .int .i64 val, .int .i64 d0, .int .i64 d1], .int .i64 most] w (AEnd b O (alone st most.toNat M (Fr.of kind pri val d0 d1)) w) := by
  have hsf := run_store_flt (P := Try.prog)
  have hms : ∀ w, (method 337 114 (.agg #[.int .i64 sh]) "Step").run Try.prog w = .ok (142, (.agg #[.int .i64 sh])) w := fun w => by kernel_rfl
  go_enter Try.func50, Try.ntmps50
  go_wp2_with fail
  obtain ⟨W0, hW0, hb00, hsz00, _, hA00⟩ := two_new w [.int .i64 kind, .float .f64 pri, .int .i64 val, .int .i64 d0, .int .i64 d1] Ans.zero.l 96 98 0
  rw [show (w.alloc (.cells #[.int .i64 kind, .float .f64 pri, .int .i64 val, .int .i64 d0, .int .i64 d1] 96)).alloc (.cells #[.bool false, .float .f64 0, .int .i64 0, .int .i64 0] 98) = W0 from hW0]
  clear hW0
  obtain ⟨fb, hfb⟩ : ∃ fb, w.heap.size + 1 + 1 = fb := ⟨_, rfl⟩
  obtain ⟨ab, hab⟩ : ∃ ab, w.heap.size + 1 = ab := ⟨_, rfl⟩
  have hfr : BoxAt (W0.alloc (.cells #[.int .i64 kind, .float .f64 pri, .int .i64 val, .int .i64 d0, .int .i64 d1, .int .i64 0, .int .i64 0, .int .i64 0, .int .i64 0, .int .i64 0, .bool false, .int .u64 0, .int .i64 0, .slice none 0 0, .int .u64 0, .int .i64 0, .slice none 0 0] 168)) fb ((Fr.of kind pri val d0 d1).l none 0 none 0) := by
    have := BoxAt.new W0 ((Fr.of kind pri val d0 d1).l none 0 none 0) 168
    rw [hsz00, hfb] at this
    exact this
  have hb0 : Below w.heap.size w (W0.alloc (.cells #[.int .i64 kind, .float .f64 pri, .int .i64 val, .int .i64 d0, .int .i64 d1, .int .i64 0, .int .i64 0, .int .i64 0, .int .i64 0, .int .i64 0, .bool false, .int .u64 0, .int .i64 0, .slice none 0 0, .int .u64 0, .int .i64 0, .slice none 0 0] 168)) := hb00.alloc (by omega) _
  have hsz1 : (W0.alloc (.cells #[.int .i64 kind, .float .f64 pri, .int .i64 val, .int .i64 d0, .int .i64 d1, .int .i64 0, .int .i64 0, .int .i64 0, .int .i64 0, .int .i64 0, .bool false, .int .u64 0, .int .i64 0, .slice none 0 0, .int .u64 0, .int .i64 0, .slice none 0 0] 168)).heap.size = w.heap.size + 3 := by rw [World.size_alloc, hsz00]
  have hA0 := hA00.below ((Below.refl W0.heap.size W0).alloc (Nat.le_refl _) (.cells #[.int .i64 kind, .float .f64 pri, .int .i64 val, .int .i64 d0, .int .i64 d1, .int .i64 0, .int .i64 0, .int .i64 0, .int .i64 0, .int .i64 0, .bool false, .int .u64 0, .int .i64 0, .slice none 0 0, .int .u64 0, .int .i64 0, .slice none 0 0] 168))
  rw [hab] at hA0
  rw [hfb, hab]
  generalize W0.alloc (.cells #[.int .i64 kind, .float .f64 pri, .int .i64 val, .int .i64 d0, .int .i64 d1, .int .i64 0, .int .i64 0, .int .i64 0, .int .i64 0, .int .i64 0, .bool false, .int .u64 0, .int .i64 0, .slice none 0 0, .int .u64 0, .int .i64 0, .slice none 0 0] 168) = W1 at *
  have hM1 := h.below hb0
  have hF1 : FrAt W1 fb (fun k => k = fb) (Fr.of kind pri val d0 d1) := ⟨rfl, fun k e => by rw [e]; exact hfr.lt, none, 0, none, 0, hfr, SlAt.nil _ _, SlAt.nil _ _, (fun j hj => by obtain ⟨y, hy, _⟩ := hj; cases hy), (fun j hj => by obtain ⟨y, hy, _⟩ := hj; cases hy)⟩
  have hOf : ∀ k, O k → k < w.heap.size := h.lt
  have hLt := hidq (And.intro hfb (And.intro hab hsz1))
  have HA := hidq hA0
  have HB := hidq hb0
  have HG := hidq hg
  have HST := hidq hst
  have HFN := hidq hfn
  have HCK := hidq hck
  clear hfb hab hsz1 hA0 hb0 hb00 hsz00 hA00 hfr h hg hst hfn hck
  go_loopw [17] (fun s wr => ∃ (k : Nat) (Mk : Mem) (Fk : Fr) (Ok Pk : Nat → Prop), s = .int .i64 (k : Int) ∧ ((k : Int) ≤ most ∨ k = 0) ∧ MemAt wr b Ok Mk ∧ FrAt wr fb Pk Fk ∧ (∀ j, Ok j → ¬ Pk j) ∧ Grown O W1 wr Ok ∧ Grown (fun j => j = fb) W1 wr Pk ∧ But (fun j => O j ∨ j = fb) W1 wr ∧ G Mk Fk ∧ Mk.clock ≤ M.clock + k ∧ Hid (alone st most.toNat M (Fr.of kind pri val d0 d1) = alone st (most.toNat - k) Mk Fk)) (fun s _ => (most - intOf s).toNat)
  case atStart =>
    obtain ⟨hfb, hab, hz1⟩ := hLt.out
    exact ⟨0, M, _, O, _, rfl, .inr rfl, hM1, hF1, fun j hj e => by have := hOf _ hj; omega, Grown.refl _ _ _, Grown.refl _ _ _, But.refl _ _, HG.out, Nat.le_refl _, hidq rfl⟩
  case round =>
    obtain ⟨k, Mk, Fk, Ok, Pk, rfl, hk, hM, hF, hD, hGO, hGP, hB, hg, hck, hal⟩ := hrel
    obtain ⟨hfb, hab, hz1⟩ := hLt.out
    have hsz := hB.size
    have hnab : ¬ (O ab ∨ ab = fb) := by
      rintro (e | e)
      · have := hOf _ e; omega
      · omega
    have hAr := HA.out.but hB hnab
    have hck0 := HCK.out
    by_cases hlt : (k : Int) < most
    · obtain ⟨m, hm2⟩ : ∃ m, most.toNat - k = m + 1 := ⟨most.toNat - k - 1, by omega⟩
      have hS := hidq (HST.out wr b fb Ok Pk Mk Fk hM hF hD hg (by omega))
      have hon := HFN.out.on Mk Fk hg
      have hcl := HFN.out.clock Mk Fk
      have HAL := hidq (fun r (hr : st Mk Fk = r) => (show alone st most.toNat M (Fr.of kind pri val d0 d1) = if r.2.2.2 = true then (r.1, r.2.2.1, true) else alone st m r.1 r.2.1 from by rw [hal.out, hm2, ← hr]; rfl))
      generalize hr : st Mk Fk = r at *
      obtain ⟨M', F', A, d⟩ := r
      have HAL2 := hidq (HAL.out _ rfl)
      have HM2 := hidq hm2
      have HCLK := hidq (And.intro hck hcl)
      have HON0 := hidq hon
      have HE := hidq (And.intro hfb (And.intro hab hz1))
      clear hM hF hr HAL hal hm2 hck hcl hck0 hon hfb hab hz1 hg
      go_wp2_with fail
      refine hS.out.mono ?_
      rintro e w2 ⟨rfl, O2, P2, hM2, hF2, hD2, hGO2, hGP2, hB2⟩
      have hs2 := hB2.size
      obtain ⟨hfb, hab, hz1⟩ := HE.out
      have hOk : ∀ j, Ok j → j ≠ ab := fun j hj e => by
        rcases hGO j hj with q | q
        · have := hOf _ q; omega
        · omega
      have hPk : ∀ j, Pk j → j ≠ ab := fun j hj e => by
        rcases hGP j hj with q | q
        · omega
        · omega
      have hA2 := hAr.but hB2 (fun e => by
        rcases e with e | e
        · exact hOk _ e rfl
        · exact hPk _ e rfl)
      have hBall : But (fun j => O j ∨ j = fb) W1 w2 := hB.then hB2 (fun j hj e => by
        rcases e with e | e
        · rcases hGO j e with q | q
          · exact .inl q
          · omega
        · rcases hGP j e with q | q
          · exact .inr q
          · omega)
      have hGO' := hGO.trans hGO2 hsz hs2
      have hGP' := hGP.trans hGP2 hsz hs2
      obtain ⟨g0, x0⟩ := hA2.get 0 _ rfl
      obtain ⟨g1, x1⟩ := hA2.get 1 _ rfl
      obtain ⟨g2, x2⟩ := hA2.get 2 _ rfl
      obtain ⟨g3, x3⟩ := hA2.get 3 _ rfl
      have hal2 := hA2.lt
      obtain ⟨aok, api, av, an⟩ := A
      dsimp only [Ans.v] at *
      cases d
      · have hon2 := HON0.out rfl
        have FIN := hidq (fun w4 (h4 : But (fun j => j = w2.heap.size) w2 w4) => (show MemAt w4 b O2 M' ∧ FrAt w4 fb P2 F' ∧ Grown O W1 w4 O2 ∧ Grown (fun j => j = fb) W1 w4 P2 ∧ But (fun j => O j ∨ j = fb) W1 w4 from by
          have hs4 := h4.size
          refine ⟨hM2.but h4 (fun j hj e => by have := hM2.lt j hj; omega), hF2.but h4 (fun j hj e => by have := hF2.lt j hj; omega), ?_, ?_, hBall.then h4 (fun j hj e => by omega)⟩
          · intro j hj
            rcases hGO' j hj with q | q
            · exact .inl q
            · exact .inr ⟨q.1, by omega⟩
          · intro j hj
            rcases hGP' j hj with q | q
            · exact .inl q
            · exact .inr ⟨q.1, by omega⟩))
        have HON := hidq hon2
        have HD2 := hidq hD2
        clear hM2 hF2 hB2 hB hBall hon2 hA2 hGO hGP hGO2 hGP2 hGO' hGP' hD hD2 hS hAr g0 x0 g1 x1 g2 x2 g3 x3 hfb hab hz1
        go_wp2
        go_roundw
        case rel =>
          obtain ⟨e1, e2, e3, e4, e5⟩ := FIN.out _ ((But.refl _ w2).alloc _)
          refine ⟨k + 1, M', F', O2, P2, by go_num, .inl (by omega), e1, e2, HD2.out, e3, e4, e5, HON.out, by have := HCLK.out; omega, hidq ?_⟩
          rw [HAL2.out, show most.toNat - (k + 1) = m by have := HM2.out; omega]
          rfl
        case measure => simp [intOf]; omega
      · have HAL3 : alone st most.toNat M (Fr.of kind pri val d0 d1) = (M', ⟨aok, api, av, an⟩, true) := by rw [HAL2.out]; rfl
        have HAL4 := hidq HAL3
        have FIN := hidq (fun w4 (h4 : But (fun j => j = w2.heap.size ∨ j = ab) w2 w4) => (show AEnd b O (M', ⟨aok, api, av, an⟩, true) w (.returned (.tuple #[(⟨aok, api, av, an⟩ : Ans).v, .bool true])) w4 from by
          have hs4 := h4.size
          refine ⟨rfl, O2, hM2.but h4 (fun j hj e => ?_), ?_, ?_⟩
          · rcases e with e | e
            · have := hM2.lt j hj; omega
            · subst e
              rcases hGO' _ hj with q | q
              · have := hOf _ q; omega
              · omega
          · intro j hj
            rcases hGO' j hj with q | q
            · exact .inl q
            · exact .inr ⟨by omega, by omega⟩
          · refine ((But.of_below HB.out).then hBall (fun j hj e => ?_)).then h4 (fun j hj e => by omega)
            rcases e with e | e
            · exact e
            · omega))
        have GA := hidq (fun o => (setBox_box (⟨aok, api, av, an⟩ : Ans).s hA2).below ((Below.refl _ _).alloc (Nat.le_refl _) o))
        clear hM2 hF2 hB2 hB hBall HAL2 HAL3 hA2 hGO hGP hGO2 hGP2 hGO' hGP' hD hD2 hS hAr HCLK HM2 hfb hz1
        go_wp2
        exact ret_ans (A := ⟨aok, api, av, an⟩) Try.results50 (GA.out _) rfl rfl rfl (by
          rw [HAL4.out]
          exact FIN.out _ ((((((But.refl _ w2).set1 _ _ (.inr rfl) _).set1 _ _ (.inr rfl) _).set1 _ _ (.inr rfl) _).set1 _ _ (.inr rfl) _).alloc _))
    · have hdl : decide ((k : Int) < most) = false := decide_eq_false hlt
      have hm0 : most.toNat - k = 0 := by omega
      have HAL : Hid (alone st most.toNat M (Fr.of kind pri val d0 d1) = (Mk, Ans.zero, false)) := hidq (by rw [hal.out, hm0]; rfl)
      have FIN := hidq (fun w4 (h4 : But (fun j => j = ab) wr w4) => (show AEnd b O (Mk, Ans.zero, false) w (.returned (.tuple #[Ans.zero.v, .bool false])) w4 from by
          have hs4 := h4.size
          refine ⟨rfl, Ok, hM.but h4 (fun j hj e => ?_), ?_, ?_⟩
          · subst e
            rcases hGO _ hj with q | q
            · have := hOf _ q; omega
            · omega
          · intro j hj
            rcases hGO j hj with q | q
            · exact .inl q
            · exact .inr ⟨by omega, by omega⟩
          · refine ((But.of_below HB.out).then hB (fun j hj e => ?_)).then h4 (fun j hj e => by omega)
            rcases e with e | e
            · exact e
            · omega))
      have GA := hidq (setBox_box Ans.zero.s hAr)
      obtain ⟨g0, x0⟩ := hAr.get 0 _ rfl
      obtain ⟨g1, x1⟩ := hAr.get 1 _ rfl
      obtain ⟨g2, x2⟩ := hAr.get 2 _ rfl
      obtain ⟨g3, x3⟩ := hAr.get 3 _ rfl
      clear hM hF hD hGO hGP hB hg hck hal hfb hab hz1 hsz hnab hAr hck0 hm0
      go_wp2
      exact ret_ans (A := Ans.zero) Try.results50 GA.out rfl rfl rfl (by
        rw [HAL.out]
        exact FIN.out _ (((((But.refl (fun j => j = ab) wr).set1 _ _ rfl _).set1 _ _ rfl _).set1 _ _ rfl _).set1 _ _ rfl _))
end Go.Proofs.Ythhechgjablklaa

namespace Go.Proofs.Ythhechgjablklaa
open Go.RowKit

theorem rinto_any (d n : Int) (w : World) (hn : n ≤ 9223372036854775807) :
    Calls Try.prog 44 #[.int .i64 d, .int .i64 n] w fun e w' => e = .returned (.int .i64 (into d n)) ∧ w' = w := by
  by_cases h : n < 1
  · rw [into_lo h]
    go_enter Try.func44, Try.ntmps44
    go_wp2
    go_ret
    exact ⟨rfl, rfl⟩
  · rw [into_hi h]
    have h1 : decide (n < 1) = false := decide_eq_false h
    have hn0 : (n == 0) = false := by simp; omega
    have hn1 : 1 ≤ n := by omega
    by_cases hm : d.tmod n < 0
    · have e1 := tmod_emod_neg hn1 hm
      have e2 := Int.lt_tmod_of_pos d (show 0 < n by omega)
      have hw : wrap64 (d.tmod n + n) = d % n := by unfold wrap64; omega
      have HW : Hid (∀ _ : Unit, wrap64 (d.tmod n + n) = d % n) := fun _ => hw
      clear e1 hw e2
      go_enter Try.func44, Try.ntmps44
      go_wp2
      go_ret
      exact ⟨by rw [← HW ()]; rfl, rfl⟩
    · have e1 : d.tmod n = d % n := tmod_emod_nonneg hn1 (by omega)
      have HW : Hid (∀ _ : Unit, d.tmod n = d % n) := fun _ => e1
      have hm1 : decide (d.tmod n < 0) = false := decide_eq_false hm
      clear e1
      go_enter Try.func44, Try.ntmps44
      go_wp2
      go_ret
      exact ⟨by rw [← HW ()]; rfl, rfl⟩

/-- The reference's Legal at a kind that is no Net. -/
theorem rlegal_any (k p : Int) (w : World) (hk : 1 ≤ k ∧ k ≤ 3) : Calls Try.prog 49 #[.int .i64 k, .int .i64 p] w fun e w' => e = .returned (.int .i64 (legal k p)) ∧ w' = w := by
  have hk1 : decide (k < 1) = false := decide_eq_false (by omega)
  have hk2 : decide (4 < k) = false := decide_eq_false (by omega)
  have hk4 : (k == 4) = false := by simp; omega
  by_cases hp : p < 1
  · rw [legal_par (by omega) (by omega)]
    clear hk
    go_enter Try.func49, Try.ntmps49
    go_wp2
    go_ret
    exact ⟨rfl, rfl⟩
  · have hp1 : decide (p < 1) = false := decide_eq_false hp
    by_cases hq : 16 < p
    · rw [legal_par (by omega) (by omega)]
      clear hk hp
      go_enter Try.func49, Try.ntmps49
      go_wp2
      go_ret
      exact ⟨rfl, rfl⟩
    · have hq1 : decide (16 < p) = false := decide_eq_false hq
      rw [legal_ok (by omega) (by omega) (by omega)]
      clear hk hp hq
      go_enter Try.func49, Try.ntmps49
      go_wp2
      go_ret
      exact ⟨rfl, rfl⟩
end Go.Proofs.Ythhechgjablklaa

namespace Go.Proofs.Ythhechgjablklaa
open Go.RowKit Go.Sort

theorem can_look {M : Mem} {k : Nat} (hk : k < 1000) : M.can (k : Int) (M.cell k).ver = true := can_yes hk rfl
theorem write_look {M : Mem} {k : Nat} (hk : k < 1000) (x : Int) (L : List It) : M.write (k : Int) (M.cell k).ver x L = M.put k x L := by
  unfold Mem.write; rw [if_pos (can_look hk)]; rfl

/-- An Insert alone. -/
theorem alone_ins (sh : Int) (hs : 1 ≤ sh ∧ sh ≤ 16) (M : Mem) (p n : Nat) (v d d1 : Int) (k : Nat) (hk : into d sh = (k : Int)) (hl : ¬ 62 ≤ (M.cell k).L.length) :
    alone (mStep sh) (n + 2) M (Fr.of 1 p v d d1) = (M.put k 0 (mWith (M.cell k).L p v), ⟨true, cbits p, v, 0⟩, true) := by
  have hr := into_rng (d := d) hs.1
  have hlk : M.look (into d sh) = M.cell k := by rw [hk, look_nat]
  have h1 : mStep sh M (Fr.of 1 p v d d1) = (M, { Fr.of 1 p v d d1 with c0 := M.cell k, pc := 2 }, Ans.zero, false) := by
    show insS sh M (Fr.of 1 p v d d1) = _
    rw [insS_read rfl (by show ¬ 62 ≤ (M.look (into d sh)).L.length; rw [hlk]; exact hl)]
    show (M, { Fr.of 1 p v d d1 with c0 := M.look (into d sh), pc := 2 }, Ans.zero, false) = _
    rw [hlk]
  rw [alone_on h1]
  have hc : M.can (into d sh) (M.cell k).ver = true := by rw [hk]; exact can_look (by omega)
  have h2 : mStep sh M { Fr.of 1 p v d d1 with c0 := M.cell k, pc := 2 } = (M.put k 0 (mWith (M.cell k).L p v), { Fr.of 1 p v d d1 with c0 := M.cell k }, ⟨true, cbits p, v, 0⟩, true) := by
    show insS sh M { Fr.of 1 p v d d1 with c0 := M.cell k, pc := 2 } = _
    rw [insS_write (by show (2 : Int) ≠ 0; decide) hc]
    show (M.write (into d sh) (M.cell k).ver 0 (mWith (M.cell k).L p v), _, _, _) = _
    rw [hk, write_look (by omega)]
    rfl
  exact alone_done h2
theorem alone_ins_full (sh : Int) (M : Mem) (p n : Nat) (v d d1 : Int) (k : Nat) (hk : into d sh = (k : Int)) (hl : 62 ≤ (M.cell k).L.length) :
    alone (mStep sh) (n + 1) M (Fr.of 1 p v d d1) = (M, Ans.zero, true) := by
  have hlk : M.look (into d sh) = M.cell k := by rw [hk, look_nat]
  have h1 : mStep sh M (Fr.of 1 p v d d1) = (M, { Fr.of 1 p v d d1 with c0 := M.look (into d sh) }, Ans.zero, true) := by
    show insS sh M (Fr.of 1 p v d d1) = _
    exact insS_full rfl (by show 62 ≤ (M.look (into d sh)).L.length; rw [hlk]; exact hl)
  exact alone_done h1
/-- A Delete alone. -/
theorem alone_del_none (sh : Int) (M : Mem) (p n : Nat) (v d d1 : Int) (k k1 : Nat) (hk : into d sh = (k : Int)) (hk1 : into d1 sh = (k1 : Int)) (hm : (mAhead (kis (M.cell k).L) (kis (M.cell k1).L)).2 = false) :
    alone (mStep sh) (n + 2) M (Fr.of 2 p v d d1) = (M, Ans.zero, true) := by
  have hlk : M.look (into d sh) = M.cell k := by rw [hk, look_nat]
  have hlk1 : M.look (into d1 sh) = M.cell k1 := by rw [hk1, look_nat]
  have h1 : mStep sh M (Fr.of 2 p v d d1) = (M, { Fr.of 2 p v d d1 with c0 := M.cell k, pc := 1 }, Ans.zero, false) := by
    show remS sh M (Fr.of 2 p v d d1) = _
    rw [remS_0 rfl]
    show (M, { Fr.of 2 p v d d1 with c0 := M.look (into d sh), pc := 1 }, Ans.zero, false) = _
    rw [hlk]
  rw [alone_on h1]
  have h2 : mStep sh M { Fr.of 2 p v d d1 with c0 := M.cell k, pc := 1 } = (M, { Fr.of 2 p v d d1 with c0 := M.cell k, pc := 1, c1 := M.look (into d1 sh) }, Ans.zero, true) := by
    show remS sh M { Fr.of 2 p v d d1 with c0 := M.cell k, pc := 1 } = _
    exact remS_1f rfl (by show (mAhead (kis (M.cell k).L) (kis (M.look (into d1 sh)).L)).2 = false; rw [hlk1]; exact hm)
  exact alone_done h2
theorem alone_del (sh : Int) (hs : 1 ≤ sh ∧ sh ≤ 16) (M : Mem) (p n : Nat) (v d d1 : Int) (k k1 : Nat) (x : KI) (K : List KI) (hk : into d sh = (k : Int)) (hk1 : into d1 sh = (k1 : Int)) (j : Nat)
    (hm : (mAhead (kis (M.cell k).L) (kis (M.cell k1).L) = (0, true) ∧ kis (M.cell k).L = x :: K ∧ j = k) ∨ (mAhead (kis (M.cell k).L) (kis (M.cell k1).L) = (1, true) ∧ kis (M.cell k1).L = x :: K ∧ j = k1)) :
    alone (mStep sh) (n + 3) M (Fr.of 2 p v d d1) = (M.put j 0 (kit K), ⟨true, x.b, x.v, 0⟩, true) := by
  have hr := into_rng (d := d) hs.1
  have hr1 := into_rng (d := d1) hs.1
  have hlk : M.look (into d sh) = M.cell k := by rw [hk, look_nat]
  have hlk1 : M.look (into d1 sh) = M.cell k1 := by rw [hk1, look_nat]
  have hm2 : (mAhead (kis (M.cell k).L) (kis (M.cell k1).L)).2 = true := by rcases hm with ⟨h, _⟩ | ⟨h, _⟩ <;> rw [h]
  have h1 : mStep sh M (Fr.of 2 p v d d1) = (M, { Fr.of 2 p v d d1 with c0 := M.cell k, pc := 1 }, Ans.zero, false) := by
    show remS sh M (Fr.of 2 p v d d1) = _
    rw [remS_0 rfl]
    show (M, { Fr.of 2 p v d d1 with c0 := M.look (into d sh), pc := 1 }, Ans.zero, false) = _
    rw [hlk]
  rw [show n + 3 = (n + 2) + 1 by omega, alone_on h1]
  have h2 : mStep sh M { Fr.of 2 p v d d1 with c0 := M.cell k, pc := 1 } = (M, { Fr.of 2 p v d d1 with c0 := M.cell k, c1 := M.cell k1, pc := 2 }, Ans.zero, false) := by
    show remS sh M { Fr.of 2 p v d d1 with c0 := M.cell k, pc := 1 } = _
    rw [remS_1t rfl (by show (mAhead (kis (M.cell k).L) (kis (M.look (into d1 sh)).L)).2 = true; rw [hlk1]; exact hm2)]
    show (M, { Fr.of 2 p v d d1 with c0 := M.cell k, c1 := M.look (into d1 sh), pc := 2 }, Ans.zero, false) = _
    rw [hlk1]
  rw [show n + 2 = (n + 1) + 1 by omega, alone_on h2]
  rcases hm with ⟨hma, hK, rfl⟩ | ⟨hma, hK, rfl⟩
  · have hc : M.can (into d sh) (M.cell j).ver = true := by rw [hk]; exact can_look (by omega)
    have h3 : mStep sh M { Fr.of 2 p v d d1 with c0 := M.cell j, c1 := M.cell k1, pc := 2 } = (M.put j 0 (kit K), { Fr.of 2 p v d d1 with c0 := M.cell j, c1 := M.cell k1 }, ⟨true, x.b, x.v, 0⟩, true) := by
      show remS sh M { Fr.of 2 p v d d1 with c0 := M.cell j, c1 := M.cell k1, pc := 2 } = _
      rw [remS_2a (x := x) (K := K) (by show (2 : Int) ≠ 0; decide) (by show (2 : Int) ≠ 1; decide) (by show (mAhead (kis (M.cell j).L) (kis (M.cell k1).L)).1 = 0; rw [hma]) hK]
      show (M.write (into d sh) (M.cell j).ver 0 (kit K), _, (if M.can (into d sh) (M.cell j).ver = true then (⟨true, x.b, x.v, 0⟩ : Ans) else Ans.zero), M.can (into d sh) (M.cell j).ver) = _
      rw [if_pos hc, hc, hk, write_look (by omega)]
      rfl
    exact alone_done h3
  · have hc : M.can (into d1 sh) (M.cell j).ver = true := by rw [hk1]; exact can_look (by omega)
    have h3 : mStep sh M { Fr.of 2 p v d d1 with c0 := M.cell k, c1 := M.cell j, pc := 2 } = (M.put j 0 (kit K), { Fr.of 2 p v d d1 with c0 := M.cell k, c1 := M.cell j }, ⟨true, x.b, x.v, 0⟩, true) := by
      show remS sh M { Fr.of 2 p v d d1 with c0 := M.cell k, c1 := M.cell j, pc := 2 } = _
      rw [remS_2b (x := x) (K := K) (by show (2 : Int) ≠ 0; decide) (by show (2 : Int) ≠ 1; decide) (by show (mAhead (kis (M.cell k).L) (kis (M.cell j).L)).1 = 1; rw [hma]) hK]
      show (M.write (into d1 sh) (M.cell j).ver 0 (kit K), _, (if M.can (into d1 sh) (M.cell j).ver = true then (⟨true, x.b, x.v, 0⟩ : Ans) else Ans.zero), M.can (into d1 sh) (M.cell j).ver) = _
      rw [if_pos hc, hc, hk1, write_look (by omega)]
      rfl
    exact alone_done h3

theorem fok_new (kind : Int) (p : Nat) (v d d1 : Int) (h : (kind = 1 ∧ p < 18446744073709551616) ∨ kind = 2) : FOk (Fr.of kind p v d d1) :=
  ⟨KOk.nil _, KOk.nil _, h.imp (fun ⟨a, b⟩ => ⟨a, b, fun e => absurd rfl e⟩) (fun a => ⟨a, fun e => absurd rfl e⟩)⟩

/-- An Insert, and what it leaves. -/
theorem insert_any (sh : Int) (hs : 1 ≤ sh ∧ sh ≤ 16) (b : Nat) (O : Nat → Prop) (M : Mem) (p : Nat) (v d d1 most : Int) (k : Nat) (hk : into d sh = (k : Int)) (w : World) (h : MemAt w b O M) (hM : MOk M) (hp : p < 18446744073709551616) (hl : (M.cell k).L.length ≤ 61) (hm : 2 ≤ most ∧ most ≤ 1000) (hck : M.clock < 4611686018427386000) :
    Calls Try.prog 50 #[.iface 114 (.agg #[.int .i64 sh]), .pointer (some ⟨b, 0, none⟩), .agg #[.int .i64 1, .float .f64 p, .int .i64 v, .int .i64 d, .int .i64 d1], .int .i64 most] w fun e w' =>
      e = .returned (.tuple #[.agg #[.bool true, .float .f64 (cbits p), .int .i64 v, .int .i64 0], .bool true]) ∧ ∃ O', MemAt w' b O' (M.put k 0 (mWith (M.cell k).L p v)) ∧ Grown O w w' O' ∧ But O w w' := by
  have := aloneM_any sh (mstep_is sh hs) (mFine sh) b O M 1 p v d d1 most w h ⟨hM, fok_new _ _ _ _ _ (.inl ⟨rfl, hp⟩)⟩ hm.2 hck
  rw [show most.toNat = (most.toNat - 2) + 2 by omega, alone_ins sh hs M p _ v d d1 k hk (by omega)] at this
  exact this
theorem insertFull_any (sh : Int) (hs : 1 ≤ sh ∧ sh ≤ 16) (b : Nat) (O : Nat → Prop) (M : Mem) (p : Nat) (v d d1 most : Int) (k : Nat) (hk : into d sh = (k : Int)) (w : World) (h : MemAt w b O M) (hM : MOk M) (hp : p < 18446744073709551616) (hl : 62 ≤ (M.cell k).L.length) (hm : 2 ≤ most ∧ most ≤ 1000) (hck : M.clock < 4611686018427386000) :
    Calls Try.prog 50 #[.iface 114 (.agg #[.int .i64 sh]), .pointer (some ⟨b, 0, none⟩), .agg #[.int .i64 1, .float .f64 p, .int .i64 v, .int .i64 d, .int .i64 d1], .int .i64 most] w fun e w' =>
      e = .returned (.tuple #[.agg #[.bool false, .float .f64 0, .int .i64 0, .int .i64 0], .bool true]) ∧ ∃ O', MemAt w' b O' M ∧ Grown O w w' O' ∧ But O w w' := by
  have := aloneM_any sh (mstep_is sh hs) (mFine sh) b O M 1 p v d d1 most w h ⟨hM, fok_new _ _ _ _ _ (.inl ⟨rfl, hp⟩)⟩ hm.2 hck
  rw [show most.toNat = (most.toNat - 1) + 1 by omega, alone_ins_full sh M p _ v d d1 k hk hl] at this
  exact this
/-- A Delete, and what it leaves. -/
theorem deleteNone_any (sh : Int) (hs : 1 ≤ sh ∧ sh ≤ 16) (b : Nat) (O : Nat → Prop) (M : Mem) (p : Nat) (v d d1 most : Int) (k k1 : Nat) (hk : into d sh = (k : Int)) (hk1 : into d1 sh = (k1 : Int)) (w : World) (h : MemAt w b O M) (hM : MOk M) (hl : (mAhead (kis (M.cell k).L) (kis (M.cell k1).L)).2 = false) (hm : 3 ≤ most ∧ most ≤ 1000) (hck : M.clock < 4611686018427386000) :
    Calls Try.prog 50 #[.iface 114 (.agg #[.int .i64 sh]), .pointer (some ⟨b, 0, none⟩), .agg #[.int .i64 2, .float .f64 p, .int .i64 v, .int .i64 d, .int .i64 d1], .int .i64 most] w fun e w' =>
      e = .returned (.tuple #[.agg #[.bool false, .float .f64 0, .int .i64 0, .int .i64 0], .bool true]) ∧ ∃ O', MemAt w' b O' M ∧ Grown O w w' O' ∧ But O w w' := by
  have := aloneM_any sh (mstep_is sh hs) (mFine sh) b O M 2 p v d d1 most w h ⟨hM, fok_new _ _ _ _ _ (.inr rfl)⟩ hm.2 hck
  rw [show most.toNat = (most.toNat - 2) + 2 by omega, alone_del_none sh M p _ v d d1 k k1 hk hk1 hl] at this
  exact this
theorem delete_any (sh : Int) (hs : 1 ≤ sh ∧ sh ≤ 16) (b : Nat) (O : Nat → Prop) (M : Mem) (p : Nat) (v d d1 most : Int) (k k1 : Nat) (x : KI) (K : List KI) (j : Nat) (hk : into d sh = (k : Int)) (hk1 : into d1 sh = (k1 : Int)) (w : World) (h : MemAt w b O M) (hM : MOk M)
    (hl : (mAhead (kis (M.cell k).L) (kis (M.cell k1).L) = (0, true) ∧ kis (M.cell k).L = x :: K ∧ j = k) ∨ (mAhead (kis (M.cell k).L) (kis (M.cell k1).L) = (1, true) ∧ kis (M.cell k1).L = x :: K ∧ j = k1)) (hm : 3 ≤ most ∧ most ≤ 1000) (hck : M.clock < 4611686018427386000) :
    Calls Try.prog 50 #[.iface 114 (.agg #[.int .i64 sh]), .pointer (some ⟨b, 0, none⟩), .agg #[.int .i64 2, .float .f64 p, .int .i64 v, .int .i64 d, .int .i64 d1], .int .i64 most] w fun e w' =>
      e = .returned (.tuple #[.agg #[.bool true, .float .f64 x.b, .int .i64 x.v, .int .i64 0], .bool true]) ∧ ∃ O', MemAt w' b O' (M.put j 0 (kit K)) ∧ Grown O w w' O' ∧ But O w w' := by
  have := aloneM_any sh (mstep_is sh hs) (mFine sh) b O M 2 p v d d1 most w h ⟨hM, fok_new _ _ _ _ _ (.inr rfl)⟩ hm.2 hck
  rw [show most.toNat = (most.toNat - 3) + 3 by omega, alone_del sh hs M p _ v d d1 k k1 x K hk hk1 j hl] at this
  exact this

theorem mnew_any (sh : Int) (w : World) : Calls Try.prog 53 #[.int .i64 sh] w fun e w' => e = .returned (.tuple #[.agg #[.int .i64 (if legal 1 sh = 0 then sh else 0)], .int .i64 (legal 1 sh)]) ∧ Below w.heap.size w w' := by
  have hL := fun w => legal_any 1 sh w
  obtain ⟨r, hr⟩ : ∃ r, legal 1 sh = r := ⟨_, rfl⟩
  rw [hr] at hL ⊢
  have hb0 : BoxAt (w.alloc (.cells #[.int .i64 0] 114)) w.heap.size [.int .i64 0] := BoxAt.new w [.int .i64 0] 114
  by_cases h0 : r = 0
  · rw [if_pos h0]
    subst h0
    clear hr
    go_enter Try.func53, Try.ntmps53
    go_wp2_with fail
    refine (hL _).mono ?_
    rintro e w2 ⟨rfl, hb⟩
    have hb2 := hb0.below hb
    obtain ⟨g0, x0⟩ := hb2.get 0 _ rfl
    have hsz := hb.size
    have HB := hidq (show Below w.heap.size w w2 from ((Below.refl _ _).alloc (Nat.le_refl _) _).trans (hb.mono (by simp)))
    clear hb hb0 hb2 hL
    go_wp2
    refine bodyPost_ret (v := .tuple #[.agg #[.int .i64 sh], .int .i64 0]) ?_ rfl ⟨rfl, HB.out.setCell (Nat.le_refl _) _⟩
    simp [results, Try.results53, go_sem, World.cell?_setCell_same', g0]
  · rw [if_neg h0]
    have hr0 : (r == 0) = false := by simpa using h0
    clear hr h0
    go_enter Try.func53, Try.ntmps53
    go_wp2_with fail
    refine (hL _).mono ?_
    rintro e w2 ⟨rfl, hb⟩
    have hb2 := hb0.below hb
    obtain ⟨g0, x0⟩ := hb2.get 0 _ rfl
    have hsz := hb.size
    have HB := hidq (show Below w.heap.size w w2 from ((Below.refl _ _).alloc (Nat.le_refl _) _).trans (hb.mono (by simp)))
    clear hb hb0 hb2 hL
    go_wp2
    refine bodyPost_ret (v := .tuple #[.agg #[.int .i64 0], .int .i64 r]) ?_ rfl ⟨rfl, HB.out.setCell (Nat.le_refl _) _⟩
    simp [results, Try.results53, go_sem, World.cell?_setCell_same', g0]
end Go.Proofs.Ythhechgjablklaa

namespace Go.Proofs.Ythhechgjablklaa
open Go.RowKit Go.Sort
namespace Ar

theorem getD_false {L : Array Bool} {i : Nat} (h : L.getD i true = false) : L.getD i false = false := by
  rw [Array.getD_eq_getD_getElem?] at *
  cases e : L[i]? with
  | none => simp
  | some b => rw [e] at h; simpa using h
theorem getD_set_ne {L : Array Bool} {k j : Nat} (h : j ≠ k) : (L.setIfInBounds k true).getD j false = L.getD j false := by
  rw [Array.getD_eq_getD_getElem?, Array.getD_eq_getD_getElem?, Array.getElem?_setIfInBounds, if_neg (fun e => h e.symm)]
theorem getD_set_same {L : Array Bool} {k : Nat} (h : L.getD k true = false) : (L.setIfInBounds k true).getD k false = true := by
  have hk : k < L.size := by
    rcases Nat.lt_or_ge k L.size with e | e
    · exact e
    · rw [Array.getD_eq_getD_getElem?, Array.getElem?_eq_none e] at h; cases h
  rw [Array.getD_eq_getD_getElem?, Array.getElem?_setIfInBounds, if_pos rfl, if_pos hk]; rfl
theorem out_skip {P : Program} {K : Value → World → Prop} {ev : Operand → Value} {o : Oper} {w w' : World} (hrun : (execOp ev o).run P w = .ok .skip w') (hk : K undef w') : Reg.Outcome P K ((execOp ev o).run P w) := by
  rw [hrun]; exact hk

/-- What the memory owns; where the answer's box lies. -/
abbrev Gh := (Nat → Prop) × Option Nat
def Pres (x : Gh) (_ : World) (x' : Gh) (_ : World) : Prop := ∀ b, x.2 = some b → x'.2 = some b
theorem Pres.refl (x : Gh) (w w' : World) : Pres x w x w' := fun _ h => h

/-- While it goes on: iA is the operation's number, iL the box's, iS the store's. -/
structure GI (w0 : World) (sb : Nat) (ls : List Value) (mb : Nat) (M0 M1 : Mem) (A : Ans) (iA iL iS : Nat) (x : Gh) (L : Array Bool) (w : World) : Prop where
  st : St w0 w sb ls mb x.1 (if L.getD iA false = true then M1 else M0)
  no : L.getD iL false = false → x.2 = none
  yes : L.getD iL false = true → ∃ bx, x.2 = some bx
  box : ∀ bx, x.2 = some bx → w0.heap.size ≤ bx ∧ ¬ x.1 bx ∧ bx ≠ sb ∧ BoxAt w bx (if L.getD iS false = true then A.l else Ans.zero.l)
section
variable {w0 : World} {sb mb iA iL iS : Nat} {ls : List Value} {M0 M1 : Mem} {A : Ans} {x : Gh} {L : Array Bool} {w w' : World} {O : Nat → Prop}
theorem GI.start (h : St w0 w sb ls mb O M0) (n : Nat) : GI w0 sb ls mb M0 M1 A iA iL iS (O, none) (Array.replicate n false) w.drew := by
  have hz : ∀ i, (Array.replicate n false).getD i false = false := fun i => by
    rw [Array.getD_eq_getD_getElem?, Array.getElem?_replicate]
    split <;> rfl
  refine ⟨?_, fun _ => rfl, fun e => ?_, fun bx hx => by cases hx⟩
  · rw [hz]; exact h.below (Below.refl _ _).drew
  · rw [hz] at e; cases e
theorem GI.quiet (h : GI w0 sb ls mb M0 M1 A iA iL iS x L w) (i : Nat) (h1 : iA ≠ i) (h2 : iL ≠ i) (h3 : iS ≠ i) : GI w0 sb ls mb M0 M1 A iA iL iS x (L.setIfInBounds i true) w := by
  refine ⟨?_, ?_, ?_, ?_⟩
  · rw [getD_set_ne h1]; exact h.st
  · rw [getD_set_ne h2]; exact h.no
  · rw [getD_set_ne h2]; exact h.yes
  · rw [getD_set_ne h3]; exact h.box
theorem GI.below (h : GI w0 sb ls mb M0 M1 A iA iL iS x L w) (hb : Below w.heap.size w w') : GI w0 sb ls mb M0 M1 A iA iL iS x L w' :=
  ⟨h.st.below hb, h.no, h.yes, fun bx hx => ⟨(h.box bx hx).1, (h.box bx hx).2.1, (h.box bx hx).2.2.1, (h.box bx hx).2.2.2.below hb⟩⟩
theorem GI.mem0 (h : GI w0 sb ls mb M0 M1 A iA iL iS x L w) (hk : L.getD iA true = false) : MemAt w mb x.1 M0 := by
  have := h.st.mem
  rw [getD_false hk] at this
  exact this
theorem GI.call (h : GI w0 sb ls mb M0 M1 A iA iL iS x L w) (hk : L.getD iA true = false) (h2 : iL ≠ iA) (h3 : iS ≠ iA) {O' : Nat → Prop} (hM : MemAt w' mb O' M1) (hG : Grown x.1 w w' O') (hB : But x.1 w w') :
    GI w0 sb ls mb M0 M1 A iA iL iS (O', x.2) (L.setIfInBounds iA true) w' := by
  refine ⟨?_, ?_, ?_, ?_⟩
  · rw [getD_set_same hk, if_pos rfl]
    exact h.st.call hM hG hB
  · rw [getD_set_ne h2]; exact h.no
  · rw [getD_set_ne h2]; exact h.yes
  · rw [getD_set_ne h3]
    intro bx hx
    obtain ⟨a, b, c, d⟩ := h.box bx hx
    refine ⟨a, fun e => ?_, c, d.but hB b⟩
    rcases hG bx e with q | q
    · exact b q
    · have := d.lt; omega
theorem GI.alloc (h : GI w0 sb ls mb M0 M1 A iA iL iS x L w) (hk : L.getD iL true = false) (hS : L.getD iS false = false) (h1 : iA ≠ iL) (h3 : iS ≠ iL) (t : TypeId) :
    GI w0 sb ls mb M0 M1 A iA iL iS (x.1, some w.heap.size) (L.setIfInBounds iL true) (w.alloc (.cells Ans.zero.l.toArray t)) := by
  refine ⟨?_, ?_, ?_, ?_⟩
  · rw [getD_set_ne h1]; exact h.st.alloc _
  · rw [getD_set_same hk]; intro e; cases e
  · intro _; exact ⟨_, rfl⟩
  · intro bx hx
    cases hx
    rw [getD_set_ne h3, hS]
    refine ⟨h.st.low.size, fun e => ?_, fun e => ?_, BoxAt.new w Ans.zero.l t⟩
    · have := h.st.mem.lt _ e; omega
    · have := h.st.box.lt; omega
theorem GI.store (h : GI w0 sb ls mb M0 M1 A iA iL iS x L w) (hk : L.getD iS true = false) (h1 : iA ≠ iS) (h2 : iL ≠ iS) {bx : Nat} (hx : x.2 = some bx) : GI w0 sb ls mb M0 M1 A iA iL iS x (L.setIfInBounds iS true) (setBox w bx A.s) := by
  obtain ⟨a, b, c, d⟩ := h.box bx hx
  rw [getD_false hk] at d
  have hb := setBox_but bx A.s w
  refine ⟨?_, ?_, ?_, ?_⟩
  · rw [getD_set_ne h1]
    exact ⟨h.st.mem.but hb (fun k hk e => b (e ▸ hk)), h.st.own, h.st.box.but hb (fun e => c e.symm), h.st.low.trans (hb.below h.st.low.size (fun k e => by omega))⟩
  · rw [getD_set_ne h2]; exact h.no
  · rw [getD_set_ne h2]; exact h.yes
  · intro by_ hy
    rw [hx] at hy
    cases hy
    rw [getD_set_same hk, if_pos rfl]
    exact ⟨a, b, c, setBox_box A.s d⟩
end
end Ar
end Go.Proofs.Ythhechgjablklaa

namespace Go.Proofs.Ythhechgjablklaa
open Go.RowKit Go.Sort

theorem run_equalIn_flt8 {P : Program} (d : Nat) (t : TypeId) (a b : Nat) (w : World) (h : P.underlying t = some (.float .f64)) : (Op.equalIn (d + 1) t (.float .f64 a) (.float .f64 b)).run P w = .ok (Op.floatEq .f64 a b) w := by
  simp [Op.equalIn, run_underlying h]

def a8 : KI := mkKI 4607182418800017408 3
def b8 : KI := mkKI 4611686018427387904 0
theorem a8_b : a8.b = 4607182418800017408 := by unfold a8; rw [mkKI_b (by decide)]; decide
theorem a8_v : a8.v = 3 := by unfold a8; rw [mkKI_v (by decide)]
theorem w8_1 : mWith [] 4611686018427387904 0 = kit [b8] := by
  unfold mWith
  show kit (srt (b8 :: [])) = _
  rw [srt_self (List.pairwise_singleton _ _)]
theorem w8_2 : mWith (kit [b8]) 4607182418800017408 3 = kit [a8, b8] := by
  unfold mWith
  rw [kis_kit]
  show kit (srt [a8, b8]) = _
  rw [srt_self (List.pairwise_cons.2 ⟨fun z hz => by rw [List.mem_singleton.1 hz]; decide, List.pairwise_singleton _ _⟩)]

set_option maxHeartbeats 4000000 in
theorem awake8_any (w : World) : Calls Try.prog 52 #[] w fun e w' => e = .returned (.bool true) ∧ Below w.heap.size w w' := by
  have hN := fun w => mnew_any 2 w
  rw [show (if legal 1 2 = 0 then (2 : Int) else 0) = 2 by decide, show legal 1 2 = 0 by decide] at hN
  have hef := fun d a b w => run_equalIn_flt8 (P := Try.prog) d 27 a b w Try.underlying27
  have hq0 : Op.floatEq .f64 4607182418800017408 4607182418800017408 = true := by decide
  have hsf := run_store_flt (P := Try.prog)
  go_enter Try.func52, Try.ntmps52
  go_wp2_with fail
  refine (hN _).mono ?_
  rintro e w1 ⟨rfl, hb1⟩
  have hB1 : BoxAt (w1.alloc (.cells #[.int .i64 2] 114)) w1.heap.size [.int .i64 2] := BoxAt.new w1 [.int .i64 2] 114
  go_wp2_with fail
  refine (new5_any _).mono ?_
  rintro e w3 ⟨rfl, hM3, hb3⟩
  have hB3 := hB1.below hb3
  obtain ⟨mb, hmb⟩ : ∃ mb, (w1.alloc (.cells #[.int .i64 2] 114)).heap.size = mb := ⟨_, rfl⟩
  rw [hmb] at hM3 ⊢
  have hS0 : St w w3 w1.heap.size [.int .i64 2] mb (fun k => k = mb) Mem.empty := by
    have s1 := hb1.size
    have s4 : mb = w1.heap.size + 1 := by rw [← hmb]; simp
    exact ⟨hM3, fun k e => by omega, hB3, (hb1.trans ((Below.refl _ _).alloc s1 _)).trans (hb3.mono (by omega))⟩
  have HS0 := hidq hS0
  have r0 := (hS0.box.get 0 _ rfl).1
  clear hB1 hB3 hb1 hb3 hM3 hN hmb hS0
  go_wp2_with fail
  refine (insert_any 2 (by decide) mb _ Mem.empty 4611686018427387904 0 0 0 9 0 (by decide) _ HS0.out.mem MOk.empty (by decide) (by decide) (by decide) (by decide)).mono ?_
  rintro e w4 ⟨rfl, O4, hM4, hG4, hB4⟩
  rw [show mWith (Mem.empty.cell 0).L 4611686018427387904 0 = kit [b8] from w8_1] at hM4
  have HS4 := hidq (HS0.out.call hM4 hG4 hB4)
  have r4 := (HS4.out.box.get 0 _ rfl).1
  clear hM4 hG4 hB4 HS0 r0
  have hk1 : KOk 62 (kit [b8]) := ⟨_, rfl, List.pairwise_singleton _ _, by decide⟩
  have hok4 : MOk (Mem.empty.put 0 0 (kit [b8])) := fun i => by
    show KOk 62 (if i = 0 then (⟨_, 0, kit [b8]⟩ : CV) else CV.zero).L
    split
    · exact hk1
    · exact KOk.nil _
  go_wp2_with fail
  refine (insert_any 2 (by decide) mb _ (Mem.empty.put 0 0 (kit [b8])) 4607182418800017408 3 0 0 9 0 (by decide) _ HS4.out.mem hok4 (by decide) (by show (kit [b8]).length ≤ 61; rw [kit_length]; decide) (by decide) (by decide)).mono ?_
  rintro e w5 ⟨rfl, O5, hM5, hG5, hB5⟩
  rw [show mWith ((Mem.empty.put 0 0 (kit [b8])).cell 0).L 4607182418800017408 3 = kit [a8, b8] from w8_2] at hM5
  have HS5 := hidq (HS4.out.call hM5 hG5 hB5)
  have r5 := (HS5.out.box.get 0 _ rfl).1
  clear hM5 hG5 hB5 HS4 r4
  have hio : InOrder [a8, b8] := List.pairwise_cons.2 ⟨fun z hz => by rw [List.mem_singleton.1 hz]; decide, List.pairwise_singleton _ _⟩
  have hok5 : MOk ((Mem.empty.put 0 0 (kit [b8])).put 0 0 (kit [a8, b8])) := fun i => by
    show KOk 62 (if i = 0 then (⟨_, 0, kit [a8, b8]⟩ : CV) else (Mem.empty.put 0 0 (kit [b8])).cell i).L
    split
    · exact ⟨_, rfl, hio, by decide⟩
    · exact hok4 i
  have hD := delete_any 2 (by decide) mb O5 ((Mem.empty.put 0 0 (kit [b8])).put 0 0 (kit [a8, b8])) 0 0 0 1 9 0 1 a8 [b8] 0 (by decide) (by decide) w5 HS5.out.mem hok5 (.inl ⟨by
    show mAhead (kis (kit [a8, b8])) (kis (CV.zero).L) = (0, true)
    rw [kis_kit]; rfl, kis_kit _, rfl⟩) (by decide) (by decide)
  rw [a8_b, a8_v] at hD
  have HD := hidq hD
  clear hD hok5 hok4 hk1 hio
  go_wp2_with fail
  refine HD.out.mono ?_
  rintro e w6 ⟨rfl, O6, hM6, hG6, hB6⟩
  have HB := hidq ((HS5.out.call hM6 hG6 hB6).alloc (.cells #[.bool true, .float .f64 4607182418800017408, .int .i64 3, .int .i64 0] 98)).low
  clear hM6 hG6 hB6 HD HS5 r5
  go_wp2
  go_ret
  exact ⟨rfl, HB.out⟩
end Go.Proofs.Ythhechgjablklaa

namespace Go.Proofs.Ythhechgjablklaa
open Go.RowKit Go.Sort

def full8R (mb : Nat) (a0 p v : Int) (A : Ans) : List (Value → Ar.Gh → World → Prop) :=
  [fun u0 _ _ => u0 = .agg #[.int .i64 a0],
   fun u0 _ _ => u0 = .iface 114 (.agg #[.int .i64 a0]),
   fun u0 _ _ => u0 = .pointer (some ⟨mb, 0, none⟩),
   fun u0 _ _ => u0 = .agg #[.int .u64 p, .int .i64 v],
   fun u0 _ _ => u0 = .agg #[.float .f64 (nf p), .int .i64 v],
   fun u0 _ _ => u0 = .agg #[.int .i64 1, .float .f64 (nf p), .int .i64 v, .int .i64 0, .int .i64 0],
   fun u0 _ _ => u0 = .tuple #[.agg #[.bool A.ok, .float .f64 A.pri, .int .i64 A.val, .int .i64 A.n], .bool true],
   fun u0 _ _ => u0 = .tuple #[.agg #[.bool A.ok, .float .f64 A.pri, .int .i64 A.val, .int .i64 A.n], .bool true],
   fun u0 _ _ => u0 = .agg #[.bool A.ok, .float .f64 A.pri, .int .i64 A.val, .int .i64 A.n],
   fun u0 _ _ => u0 = .bool true,
   fun u0 x _ => ∃ bx, x.2 = some bx ∧ u0 = .pointer (some ⟨bx, 0, none⟩),
   fun _ _ _ => True,
   fun u0 _ _ => u0 = .bool true]
theorem full8R_kept (mb : Nat) (a0 p v : Int) (A : Ans) : Reg.GAllKept Ar.Pres (full8R mb a0 p v A) :=
  ⟨(fun _ _ _ _ _ _ h => h), (fun _ _ _ _ _ _ h => h), (fun _ _ _ _ _ _ h => h), (fun _ _ _ _ _ _ h => h), (fun _ _ _ _ _ _ h => h), (fun _ _ _ _ _ _ h => h), (fun _ _ _ _ _ _ h => h), (fun _ _ _ _ _ _ h => h), (fun _ _ _ _ _ _ h => h), (fun _ _ _ _ _ _ h => h), (fun _ _ _ _ _ hp h => by obtain ⟨bx, h1, h2⟩ := h; exact ⟨bx, hp bx h1, h2⟩), (fun _ _ _ _ _ _ h => h), (fun _ _ _ _ _ _ h => h), trivial⟩

theorem mWith_length {L : List It} {p : Nat} {v : Int} (h : KOk 62 L) : (mWith L p v).length = L.length + 1 := by
  obtain ⟨K, rfl, _, _⟩ := h
  unfold mWith
  rw [kit_length, kit_length, (srt_perm _).length_eq, kis_kit]; rfl

/-- What holds between two rounds. -/
def MF (w0 : World) (sb mb : Nat) (a0 : Int) (k : Nat) (wr : World) : Prop :=
  ∃ (O : Nat → Prop) (M : Mem), St w0 wr sb [.int .i64 a0] mb O M ∧ MOk M ∧ (M.cell 0).L.length = min k 62 ∧ M.clock = min k 62

set_option maxRecDepth 20000 in
set_option maxHeartbeats 8000000 in
theorem multiFull_any (a0 p v : Int) (w : World) (hp0 : 0 ≤ p) (hp1 : p < 18446744073709551616) :
    Calls Try.prog 14 #[.int .i64 a0, .agg #[.int .u64 p, .int .i64 v]] w fun e w' => e = .returned (.bool true) ∧ Below w.heap.size w w' := by
  have hsf := run_store_flt (P := Try.prog)
  have hf1 := fldC_1
  have hf2 := fldV_1
  have hOw := fun w => own_any p v w
  have hN := fun w => mnew_any a0 w
  have hL := fun w => rlegal_any 1 a0 w (by decide)
  obtain ⟨rb, hrb⟩ : ∃ rb, w.heap.size = rb := ⟨_, rfl⟩
  obtain ⟨W1, hW1⟩ : ∃ W1, w.alloc (.cells #[.int .u64 p, .int .i64 v] 33) = W1 := ⟨_, rfl⟩
  have hb0 : Below w.heap.size w W1 := by rw [← hW1]; exact (Below.refl _ _).alloc (Nat.le_refl _) _
  have hR0 : BoxAt W1 rb [.int .u64 p, .int .i64 v] := by rw [← hW1, ← hrb]; exact BoxAt.new w _ _
  have hA := hidq (awake8_any W1)
  have HB0 := hidq hb0
  have FC := hidq (fun W (hW : Below W1.heap.size W1 W) => And.intro ((hR0.below hW).get 0 _ rfl).1 ((hR0.below hW).get 1 _ rfl).1)
  obtain ⟨r, hr⟩ : ∃ r, legal 1 a0 = r := ⟨_, rfl⟩
  rw [hr] at hN hL
  clear hb0 hR0
  by_cases h0 : r = 0
  · subst h0
    have hs16 : 1 ≤ a0 ∧ a0 ≤ 16 := by
      rcases Classical.em (1 ≤ a0 ∧ a0 ≤ 16) with h | h
      · exact h
      · rw [legal_par (by decide) h] at hr; cases hr
    rw [if_pos rfl] at hN
    clear hr
    go_enter Try.func14, Try.ntmps14
    go_wp2_with fail
    refine hA.out.mono ?_
    rintro e w1 ⟨rfl, hb1⟩
    go_wp2_with fail
    refine (hN _).mono ?_
    rintro e w2 ⟨rfl, hb2⟩
    have hB2 : BoxAt (w2.alloc (.cells #[.int .i64 a0] 114)) w2.heap.size [.int .i64 a0] := BoxAt.new w2 [.int .i64 a0] 114
    go_wp2_with fail
    refine (hL _).mono ?_
    rintro e w3 ⟨rfl, hw3⟩
    replace hw3 := hw3.symm
    subst hw3
    go_wp2_with fail
    refine (new5_any _).mono ?_
    rintro e w4 ⟨rfl, hM4, hb4⟩
    obtain ⟨sb, hsb⟩ : ∃ sb, w2.heap.size = sb := ⟨_, rfl⟩
    obtain ⟨mb, hmb⟩ : ∃ mb, (w2.alloc (.cells #[.int .i64 a0] 114)).heap.size = mb := ⟨_, rfl⟩
    have hB4 := hB2.below hb4
    rw [hsb] at hB4
    rw [hmb] at hM4
    have HT0 := hidq (show MF W1 sb mb a0 0 w4 from by
      have s1 := hb1.size
      have s2 := hb2.size
      have s4 : mb = w2.heap.size + 1 := by rw [← hmb]; simp
      exact ⟨_, _, ⟨hM4, fun k e => by omega, hB4, ((hb1.trans (hb2.mono s1)).trans ((Below.refl _ _).alloc (by omega) _)).trans (hb4.mono (by rw [hmb]; omega))⟩, MOk.empty, rfl, rfl⟩)
    rw [hmb, hsb]
    clear hB4 hB2 hM4 hb4 hb1 hb2 hmb hsb hA hN hL hW1
    go_wp2_with fail
    go_loopw [8] (fun s8 wr => ∃ (k : Nat), s8 = .int .i64 (k : Int) ∧ k ≤ 63 ∧ Hid (MF W1 sb mb a0 k wr)) (fun s8 _ => 63 - (intOf s8).toNat)
    case atStart => exact ⟨0, rfl, Nat.zero_le _, HT0⟩
    case round =>
      obtain ⟨k, rfl, hk63, hT⟩ := hrel
      obtain ⟨O, M, hS, hok, hlen, hclk⟩ := hT.out
      clear HT0
      have HS := hidq hS
      by_cases hlt : k < 63
      · have hlt2 : (k : Int) ≤ 62 := by omega
        obtain ⟨M1, A, HAl, hA1, HMF⟩ : ∃ (M1 : Mem) (A : Ans), Hid (∀ w (O : Nat → Prop), MemAt w mb O M → Calls Try.prog 50 #[.iface 114 (.agg #[.int .i64 a0]), .pointer (some ⟨mb, 0, none⟩), .agg #[.int .i64 1, .float .f64 (nf p), .int .i64 v, .int .i64 0, .int .i64 0], .int .i64 2] w fun e w' =>
            e = .returned (.tuple #[.agg #[.bool A.ok, .float .f64 A.pri, .int .i64 A.val, .int .i64 A.n], .bool true]) ∧ ∃ O', MemAt w' mb O' M1 ∧ Grown O w w' O' ∧ But O w w') ∧ A.ok = decide (k < 62) ∧ Hid (MOk M1 ∧ (M1.cell 0).L.length = min (k + 1) 62 ∧ M1.clock = min (k + 1) 62) := by
          have hin : into 0 a0 = ((0 : Nat) : Int) := by rw [into_hi (by omega)]; simp
          have hnf : nf p < 18446744073709551616 := by unfold nf; omega
          by_cases h62 : k < 62
          · refine ⟨_, ⟨true, cbits (nf p), v, 0⟩, hidq (fun w O hM => insert_any a0 hs16 mb O M (nf p) v 0 0 2 0 hin w hM hok hnf (by omega) (by decide) (by omega)), by simp [h62], hidq ⟨?_, ?_, ?_⟩⟩
            · intro i
              show KOk 62 (if i = 0 then (⟨_, 0, mWith (M.cell 0).L (nf p) v⟩ : CV) else M.cell i).L
              split
              · exact mWith_ok (hok 0) (by omega)
              · exact hok i
            · show (mWith (M.cell 0).L (nf p) v).length = _
              rw [mWith_length (hok 0), hlen]; omega
            · show M.clock + 1 = _
              rw [hclk]; omega
          · refine ⟨M, Ans.zero, hidq (fun w O hM => insertFull_any a0 hs16 mb O M (nf p) v 0 0 2 0 hin w hM hok hnf (by omega) (by decide) (by omega)), by simp [h62, Ans.zero], hidq ⟨hok, by omega, by omega⟩⟩
        clear hlen hclk hok hS
        go_wp2_with fail
        refine Reg.wp_region_ghost (Reg.gofList (full8R mb a0 p v A)) Ar.Pres (Ar.GI W1 sb [.int .i64 a0] mb M M1 A 6 10 11) (O, none) (by kernel_rfl) (by kernel_rfl) (Reg.GAllKept.at _ (full8R_kept mb a0 p v A)) (Ar.GI.start HS.out _) ⟨?_, ?_, ?_, ?_, ?_, ?_, ?_, ?_, ?_, ?_, ?_, ?_, ?_, trivial⟩ ?_
        · refine Reg.GStepAt.plain (i := 0) rfl ?_
          intro x L ev w hI hk hp hA
          have e5 : ev (.tmp 5) = .pointer (some ⟨sb, 0, none⟩) := hA.oldNone 5 (by kernel_rfl)
          have hcc := hA.const
          clear hA hp
          have f0 := (hI.st.box.get 0 _ rfl).1
          obtain ⟨f1, f2⟩ := FC.out w hI.st.low
          refine Reg.out_value (v := .agg #[.int .i64 a0]) ?_ ⟨x, rfl, Ar.Pres.refl _ _ _, hI.quiet 0 (by decide) (by decide) (by decide)⟩
          go_simp
        · refine Reg.GStepAt.plain (i := 1) rfl ?_
          intro x L ev w hI hk hp hA
          have e30 : ev (.tmp 30) = .agg #[.int .i64 a0] := hA.val 0 _ 30 rfl (hp ⟨0, .data⟩ (by simp) rfl) rfl
          have hcc := hA.const
          clear hA hp
          refine Reg.out_value (v := .iface 114 (.agg #[.int .i64 a0])) ?_ ⟨x, rfl, Ar.Pres.refl _ _ _, hI.quiet 1 (by decide) (by decide) (by decide)⟩
          go_simp
        · refine Reg.GStepAt.plain (i := 2) rfl ?_
          intro x L ev w hI hk hp hA
          have e7 : ev (.tmp 7) = .pointer (some ⟨mb, 0, none⟩) := hA.oldNone 7 (by kernel_rfl)
          have hcc := hA.const
          clear hA hp
          refine Reg.out_value (v := .pointer (some ⟨mb, 0, none⟩)) ?_ ⟨x, rfl, Ar.Pres.refl _ _ _, hI.quiet 2 (by decide) (by decide) (by decide)⟩
          go_simp
        · refine Reg.GStepAt.plain (i := 3) rfl ?_
          intro x L ev w hI hk hp hA
          have e3 : ev (.tmp 3) = .pointer (some ⟨rb, 0, none⟩) := hA.oldNone 3 (by kernel_rfl)
          have hcc := hA.const
          clear hA hp
          have f0 := (hI.st.box.get 0 _ rfl).1
          obtain ⟨f1, f2⟩ := FC.out w hI.st.low
          refine Reg.out_value (v := .agg #[.int .u64 p, .int .i64 v]) ?_ ⟨x, rfl, Ar.Pres.refl _ _ _, hI.quiet 3 (by decide) (by decide) (by decide)⟩
          go_simp
        · refine Reg.GStepAt.plain (i := 4) rfl ?_
          intro x L ev w hI hk hp hA
          have e33 : ev (.tmp 33) = .agg #[.int .u64 p, .int .i64 v] := hA.val 3 _ 33 rfl (hp ⟨3, .data⟩ (by simp) rfl) rfl
          have hcc := hA.const
          have hcf := hA.func
          clear hA hp
          refine Reg.out_call (f := 17) (args := #[.agg #[.int .u64 p, .int .i64 v]]) (w0 := w) ?_ ?_
          · go_simp
          refine (hOw w).mono ?_
          rintro e w' ⟨rfl, hb'⟩
          exact ⟨_, rfl, x, rfl, Ar.Pres.refl _ _ _, (hI.below hb').quiet 4 (by decide) (by decide) (by decide)⟩
        · refine Reg.GStepAt.plain (i := 5) rfl ?_
          intro x L ev w hI hk hp hA
          have e34 : ev (.tmp 34) = .agg #[.float .f64 (nf p), .int .i64 v] := hA.val 4 _ 34 rfl (hp ⟨4, .data⟩ (by simp) rfl) rfl
          have hcc := hA.const
          clear hA hp
          refine Reg.out_value (v := .agg #[.int .i64 1, .float .f64 (nf p), .int .i64 v, .int .i64 0, .int .i64 0]) ?_ ⟨x, rfl, Ar.Pres.refl _ _ _, hI.quiet 5 (by decide) (by decide) (by decide)⟩
          go_simp
        · refine Reg.GStepAt.plain (i := 6) rfl ?_
          intro x L ev w hI hk hp hA
          have e31 : ev (.tmp 31) = .iface 114 (.agg #[.int .i64 a0]) := hA.val 1 _ 31 rfl (hp ⟨1, .data⟩ (by simp) rfl) rfl
          have e32 : ev (.tmp 32) = .pointer (some ⟨mb, 0, none⟩) := hA.val 2 _ 32 rfl (hp ⟨2, .data⟩ (by simp) rfl) rfl
          have e35 : ev (.tmp 35) = .agg #[.int .i64 1, .float .f64 (nf p), .int .i64 v, .int .i64 0, .int .i64 0] := hA.val 5 _ 35 rfl (hp ⟨5, .data⟩ (by simp) rfl) rfl
          have hcc := hA.const
          have hcf := hA.func
          clear hA hp
          refine Reg.out_call (f := 50) (args := #[.iface 114 (.agg #[.int .i64 a0]), .pointer (some ⟨mb, 0, none⟩), .agg #[.int .i64 1, .float .f64 (nf p), .int .i64 v, .int .i64 0, .int .i64 0], .int .i64 2]) (w0 := w) ?_ ?_
          · go_simp
          refine (HAl.out w x.1 (hI.mem0 hk)).mono ?_
          rintro e w' ⟨rfl, O', h1, h2, h3⟩
          exact ⟨_, rfl, (O', x.2), rfl, fun _ h => h, hI.call hk (by decide) (by decide) h1 h2 h3⟩
        · refine Reg.GStepAt.plain (i := 7) rfl ?_
          intro x L ev w hI hk hp hA
          have e36 : ev (.tmp 36) = .tuple #[.agg #[.bool A.ok, .float .f64 A.pri, .int .i64 A.val, .int .i64 A.n], .bool true] := hA.val 6 _ 36 rfl (hp ⟨6, .data⟩ (by simp) rfl) rfl
          have hcc := hA.const
          clear hA hp
          refine Reg.out_value (v := .tuple #[.agg #[.bool A.ok, .float .f64 A.pri, .int .i64 A.val, .int .i64 A.n], .bool true]) ?_ ⟨x, rfl, Ar.Pres.refl _ _ _, hI.quiet 7 (by decide) (by decide) (by decide)⟩
          go_simp
        · refine Reg.GStepAt.plain (i := 8) rfl ?_
          intro x L ev w hI hk hp hA
          have e29 : ev (.tmp 29) = .tuple #[.agg #[.bool A.ok, .float .f64 A.pri, .int .i64 A.val, .int .i64 A.n], .bool true] := hA.val 7 _ 29 rfl (hp ⟨7, .data⟩ (by simp) rfl) rfl
          have hcc := hA.const
          clear hA hp
          refine Reg.out_value (v := .agg #[.bool A.ok, .float .f64 A.pri, .int .i64 A.val, .int .i64 A.n]) ?_ ⟨x, rfl, Ar.Pres.refl _ _ _, hI.quiet 8 (by decide) (by decide) (by decide)⟩
          go_simp
        · refine Reg.GStepAt.plain (i := 9) rfl ?_
          intro x L ev w hI hk hp hA
          have e29 : ev (.tmp 29) = .tuple #[.agg #[.bool A.ok, .float .f64 A.pri, .int .i64 A.val, .int .i64 A.n], .bool true] := hA.val 7 _ 29 rfl (hp ⟨7, .data⟩ (by simp) rfl) rfl
          have hcc := hA.const
          clear hA hp
          refine Reg.out_value (v := .bool true) ?_ ⟨x, rfl, Ar.Pres.refl _ _ _, hI.quiet 9 (by decide) (by decide) (by decide)⟩
          go_simp
        · refine Reg.GStepAt.plain (i := 10) rfl ?_
          intro x L ev w hI hk hp hA
          have hcc := hA.const
          have hSf : L.getD 11 false = false := by
            cases hq : L.getD 11 false with
            | false => rfl
            | true => have := hA.closed 11 _ rfl hq ⟨10, .data⟩ (by simp) rfl; rw [show (⟨10, .data⟩ : Edge).on = 10 from rfl, Ar.getD_false hk] at this; cases this
          clear hA hp
          refine Reg.out_new (v := .pointer (some ⟨w.heap.size, 0, none⟩)) (w' := w.alloc (.cells Ans.zero.l.toArray 98)) ?_ ⟨(x.1, some w.heap.size), ⟨_, rfl, rfl⟩, fun b hb => (by rw [hI.no (Ar.getD_false hk)] at hb; cases hb), hI.alloc hk hSf (by decide) (by decide) _⟩
          (go_simp; try rfl)
        · refine Reg.GStepAt.plain (i := 11) rfl ?_
          intro x L ev w hI hk hp hA
          have e9 : ∃ bx, x.2 = some bx ∧ ev (.tmp 9) = .pointer (some ⟨bx, 0, none⟩) := hA.val 10 _ 9 rfl (hp ⟨10, .data⟩ (by simp) rfl) rfl
          have e37 : ev (.tmp 37) = .agg #[.bool A.ok, .float .f64 A.pri, .int .i64 A.val, .int .i64 A.n] := hA.val 8 _ 37 rfl (hp ⟨8, .data⟩ (by simp) rfl) rfl
          have hcc := hA.const
          clear hA hp
          obtain ⟨bx, hx, e9⟩ := e9
          have hbx := (hI.box bx hx).2.2.2
          rw [Ar.getD_false hk] at hbx
          obtain ⟨g0, x0⟩ := hbx.get 0 _ rfl
          obtain ⟨g1, x1⟩ := hbx.get 1 _ rfl
          obtain ⟨g2, x2⟩ := hbx.get 2 _ rfl
          obtain ⟨g3, x3⟩ := hbx.get 3 _ rfl
          refine Ar.out_skip (w' := setBox w bx A.s) ?_ ⟨x, trivial, Ar.Pres.refl _ _ _, hI.store hk (by decide) (by decide) hx⟩
          clear hbx
          simp only [setBox]
          go_simp
        · refine Reg.GStepAt.plain (i := 12) rfl ?_
          intro x L ev w hI hk hp hA
          have e38 : ev (.tmp 38) = .bool true := hA.val 9 _ 38 rfl (hp ⟨9, .data⟩ (by simp) rfl) rfl
          have hcc := hA.const
          clear hA hp
          refine Reg.out_value (v := .bool true) ?_ ⟨x, rfl, Ar.Pres.refl _ _ _, hI.quiet 12 (by decide) (by decide) (by decide)⟩
          go_simp
        intro x L act wz hall hI hF
        have q30 : act.eval (.tmp 30) = .agg #[.int .i64 a0] := hF.val 0 _ 30 rfl (hall 0 (by simp)) rfl
        have q31 : act.eval (.tmp 31) = .iface 114 (.agg #[.int .i64 a0]) := hF.val 1 _ 31 rfl (hall 1 (by simp)) rfl
        have q32 : act.eval (.tmp 32) = .pointer (some ⟨mb, 0, none⟩) := hF.val 2 _ 32 rfl (hall 2 (by simp)) rfl
        have q33 : act.eval (.tmp 33) = .agg #[.int .u64 p, .int .i64 v] := hF.val 3 _ 33 rfl (hall 3 (by simp)) rfl
        have q34 : act.eval (.tmp 34) = .agg #[.float .f64 (nf p), .int .i64 v] := hF.val 4 _ 34 rfl (hall 4 (by simp)) rfl
        have q35 : act.eval (.tmp 35) = .agg #[.int .i64 1, .float .f64 (nf p), .int .i64 v, .int .i64 0, .int .i64 0] := hF.val 5 _ 35 rfl (hall 5 (by simp)) rfl
        have q36 : act.eval (.tmp 36) = .tuple #[.agg #[.bool A.ok, .float .f64 A.pri, .int .i64 A.val, .int .i64 A.n], .bool true] := hF.val 6 _ 36 rfl (hall 6 (by simp)) rfl
        have q29 : act.eval (.tmp 29) = .tuple #[.agg #[.bool A.ok, .float .f64 A.pri, .int .i64 A.val, .int .i64 A.n], .bool true] := hF.val 7 _ 29 rfl (hall 7 (by simp)) rfl
        have q37 : act.eval (.tmp 37) = .agg #[.bool A.ok, .float .f64 A.pri, .int .i64 A.val, .int .i64 A.n] := hF.val 8 _ 37 rfl (hall 8 (by simp)) rfl
        have q38 : act.eval (.tmp 38) = .bool true := hF.val 9 _ 38 rfl (hall 9 (by simp)) rfl
        have q9 : ∃ bx, x.2 = some bx ∧ act.eval (.tmp 9) = .pointer (some ⟨bx, 0, none⟩) := hF.val 10 _ 9 rfl (hall 10 (by simp)) rfl
        obtain ⟨bx, hx, q9⟩ := q9
        have q10 : act.eval (.tmp 10) = .bool true := hF.val 12 _ 10 rfl (hall 12 (by simp)) rfl
        have hact := hF.act [30, 31, 32, 33, 34, 35, 36, 29, 37, 38, 9, 10] (by kernel_rfl)
        have hst := hI.st
        rw [hall 6 (by simp), if_pos rfl] at hst
        obtain ⟨hx1, hx2, hx3, hbx⟩ := hI.box bx hx
        rw [hall 11 (by simp), if_pos rfl] at hbx
        clear hF hall hI
        simp only [List.foldl_cons, List.foldl_nil] at hact
        rw [q30, q31, q32, q33, q34, q35, q36, q29, q37, q38, q9, q10] at hact
        clear q30 q31 q32 q33 q34 q35 q36 q29 q37 q38 q9 q10
        simp only [List.setIfInBounds_toArray, List.set_cons_succ, List.set_cons_zero] at hact
        subst hact
        have g0 := (hbx.get 0 _ rfl).1
        have HZ := hidq (show MF W1 sb mb a0 (k + 1) wz from ⟨_, _, hst, HMF.out.1, HMF.out.2.1, HMF.out.2.2⟩)
        clear hst hx1 hx2 hx3 hbx HMF HAl HS FC hT
        rw [hA1] at g0
        by_cases h62 : k < 62
        · have hd1 : decide (k < 62) = true := decide_eq_true h62
          have hd3 : (k : Int) < 62 := by omega
          rw [hd1] at g0
          clear hd1 hA1
          go_wp2
          go_roundw
          case rel => exact ⟨k + 1, by go_num, by omega, HZ⟩
          case measure => simp [intOf]; omega
        · have hd1 : decide (k < 62) = false := decide_eq_false h62
          have hd3 : decide ((k : Int) < 62) = false := decide_eq_false (by omega)
          rw [hd1] at g0
          clear hA1
          go_wp2
          go_roundw
          case rel => exact ⟨k + 1, by go_num, by omega, HZ⟩
          case measure => simp [intOf]; omega
      · have hk : k = 63 := by omega
        subst hk
        have hR := read5_any mb O M 0 wr hS.mem
        rw [show M.look 0 = M.cell 0 from look_nat 0, show (M.cell 0).L.length = 62 from hlen] at hR
        have HR := hidq hR
        have hClk := fun W (hW : Below wr.heap.size wr W) => clock5_any mb O M W (hS.mem.below hW)
        rw [show M.clock = 62 from hclk] at hClk
        have HC := hidq hClk
        have HB := hidq (fun W (hW : Below wr.heap.size wr W) => (show Below w.heap.size w W from by
          have h1 := hS.low.trans (hW.mono hS.low.size)
          exact HB0.out.trans (h1.mono HB0.out.size)))
        clear hR hClk hS HS hok hlen hclk hT FC
        go_wp2_with fail
        refine HR.out.mono ?_
        rintro e w5 ⟨a5, c5, rfl, _, _, hb5⟩
        have HB5 := hidq hb5
        clear hb5
        generalize (M.cell 0).ver = ve at *
        generalize (M.cell 0).n = cn at *
        go_wp2_with fail
        refine (HC.out w5 HB5.out).mono ?_
        rintro e w6 ⟨rfl, hw6⟩
        replace hw6 := hw6.symm
        subst hw6
        go_wp2
        go_ret
        exact ⟨rfl, HB.out _ HB5.out⟩
  · have hr0 : (r == 0) = false := by simpa using h0
    rw [if_neg h0] at hN
    clear hr h0
    go_enter Try.func14, Try.ntmps14
    go_wp2_with fail
    refine hA.out.mono ?_
    rintro e w1 ⟨rfl, hb1⟩
    go_wp2_with fail
    refine (hN _).mono ?_
    rintro e w2 ⟨rfl, hb2⟩
    go_wp2_with fail
    refine (hL _).mono ?_
    rintro e w3 ⟨rfl, hw3⟩
    replace hw3 := hw3.symm
    subst hw3
    have HB := hidq (show Below w.heap.size w (w2.alloc (.cells #[.int .i64 0] 114)) from by
      have h1 := HB0.out.trans (hb1.mono HB0.out.size)
      have h2 := h1.trans (hb2.mono h1.size)
      exact h2.alloc h2.size _)
    clear hb1 hb2 hA hN hL
    go_wp2
    go_ret
    exact ⟨rfl, HB.out⟩
end Go.Proofs.Ythhechgjablklaa

namespace Go.Proofs.Ythhechgjablklaa
open Go.RowKit Go.Sort

/-- Items in the making, as an argument. -/
def Raws (w : World) (a : Option Addr) (n : Nat) (K M : Nat → Int) : Prop :=
  ∀ i, i < n → ∃ g off, a = some ⟨g, off, none⟩ ∧ g < w.heap.size ∧ w.cell? ⟨g, off + i * 2, none⟩ = some (.int .u64 (K i)) ∧ w.cell? ⟨g, off + i * 2 + 1, none⟩ = some (.int .i64 (M i)) ∧ 0 ≤ K i ∧ K i < 18446744073709551616
theorem Raws.below {w w' : World} {a : Option Addr} {n : Nat} {K M : Nat → Int} (h : Raws w a n K M) (hb : Below w.heap.size w w') : Raws w' a n K M := fun i hi => by
  obtain ⟨g, off, h1, h2, h3, h4, h5⟩ := h i hi
  exact ⟨g, off, h1, Nat.lt_of_lt_of_le h2 hb.size, by rw [hb.cell (p := ⟨g, off + i * 2, none⟩) h2]; exact h3, by rw [hb.cell (p := ⟨g, off + i * 2 + 1, none⟩) h2]; exact h4, h5⟩
theorem Raws.but {S : Nat → Prop} {w w' : World} {a : Option Addr} {n : Nat} {K M : Nat → Int} (h : Raws w a n K M) (hb : But S w w') (hS : ∀ k, inB a k → ¬ S k) : Raws w' a n K M := fun i hi => by
  obtain ⟨g, off, h1, h2, h3, h4, h5⟩ := h i hi
  have hn : ¬ S g := hS g ⟨_, h1, rfl⟩
  exact ⟨g, off, h1, Nat.lt_of_lt_of_le h2 hb.size, by rw [hb.cell (p := ⟨g, off + i * 2, none⟩) h2 hn]; exact h3, by rw [hb.cell (p := ⟨g, off + i * 2 + 1, none⟩) h2 hn]; exact h4, h5⟩

/-- The items that are made of them. -/
def rawL (K V : Nat → Int) (n : Nat) : List KI := (List.range n).map (kiOf K V)
theorem rawL_length (K V : Nat → Int) (n : Nat) : (rawL K V n).length = n := by simp [rawL]
theorem rawL_succ (K V : Nat → Int) (n : Nat) : rawL K V (n + 1) = rawL K V n ++ [kiOf K V n] := by simp [rawL, List.range_succ]
def kt (x : KI) : It := (x.b, x.v)
def kts (L : List KI) : List It := L.map kt
theorem kts_length (L : List KI) : (kts L).length = L.length := by simp [kts]
theorem kts_append (L M : List KI) : kts (L ++ M) = kts L ++ kts M := by simp [kts]
end Go.Proofs.Ythhechgjablklaa
