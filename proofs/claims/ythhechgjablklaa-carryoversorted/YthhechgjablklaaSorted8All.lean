/-
  Layer 6: an operation that nobody disturbs, on one machine: contract.
  Layer 6's reference: draws, parameters: contracts.
  Layer 8: what a Multi's operations come to, alone; New; the answers that the document fixes.
  An operation alone within a statement that draws its order: the machine in its box, the memory, and a new box for the answer.
  Items in the making, as an argument; as the program's, as the document's.
  Through the layers: of one shard what was inserted comes out in order: the call returns true.
-/
import Derived.Test.YthhechgjablklaaAloneG6All
import Derived.Test.YthhechgjablklaaMultiStep8All
import Derived.Test.YthhechgjablklaaFits5All
import Derived.Test.YthhechgjablklaaFlat4All
namespace Go.Proofs.Ythhechgjablklaa
open Go.RowKit Go.Sort

set_option maxHeartbeats 4000000 in
theorem aloneM_any (sh : Int) {G : Mem → Fr → Prop} {st : StepFn} (hst : IsStep 142 (.agg #[.int .i64 sh]) G st) (hfn : Fine G st)
    (b : Nat) (O : Nat → Prop) (M : Mem) (kind : Int) (pri : Nat) (val d0 d1 most : Int) (w : World) (h : MemAt w b O M) (hg : G M (Fr.of kind pri val d0 d1)) (hm : most ≤ 1000) (hck : M.clock < 4611686018427386000) :
    Calls Try.prog 50 #[.iface 114 (.agg #[.int .i64 sh]), .pointer (some ⟨b, 0, none⟩), .agg #[.int .i64 kind, .float .f64 pri, .int .i64 val, .int .i64 d0, .int .i64 d1], .int .i64 most] w (AEnd b O (alone st most.toNat M (Fr.of kind pri val d0 d1)) w) := by
  have hsf := run_store_flt (P := Try.prog)
  have hms : ∀ w, (method 337 114 (.agg #[.int .i64 sh]) "Step").run Try.prog w = .ok (142, (.agg #[.int .i64 sh])) w := fun w => by kernel_rfl
  go_enter Try.func50, Try.ntmps50
  go_wp2_with fail
  obtain ⟨W0, hW0, hb00, hsz00, _, hA00⟩ := two_new w [.int .i64 kind, .float .f64 pri, .int .i64 val, .int .i64 d0, .int .i64 d1] Ans.zero.l 96 98 0
  rw [show (w.alloc (.cells #[.int .i64 kind, .float .f64 pri, .int .i64 val, .int .i64 d0, .int .i64 d1] 96)).alloc (.cells #[.bool false, .float .f64 0, .int .i64 0, .int .i64 0] 98) = W0 from hW0]
  clear hW0
  obtain ⟨fb, hfb⟩ : ∃ fb, w.heap.size + 1 + 1 = fb := ⟨_, rfl⟩
  obtain ⟨ab, hab⟩ : ∃ ab, w.heap.size + 1 = ab := ⟨_, rfl⟩
  have hfr : BoxAt (W0.alloc (.cells #[.int .i64 kind, .float .f64 pri, .int .i64 val, .int .i64 d0, .int .i64 d1, .int .i64 0, .int .i64 0, .int .i64 0, .int .i64 0, .int .i64 0, .bool false, .int .u64 0, .int .i64 0, .slice none 0 0, .int .u64 0, .int .i64 0, .slice none 0 0] 168)) fb ((Fr.of kind pri val d0 d1).l none 0 none 0) := by
    have := BoxAt.new W0 ((Fr.of kind pri val d0 d1).l none 0 none 0) 168
    rw [hsz00, hfb] at this
    exact this
  have hb0 : Below w.heap.size w (W0.alloc (.cells #[.int .i64 kind, .float .f64 pri, .int .i64 val, .int .i64 d0, .int .i64 d1, .int .i64 0, .int .i64 0, .int .i64 0, .int .i64 0, .int .i64 0, .bool false, .int .u64 0, .int .i64 0, .slice none 0 0, .int .u64 0, .int .i64 0, .slice none 0 0] 168)) := hb00.alloc (by omega) _
  have hsz1 : (W0.alloc (.cells #[.int .i64 kind, .float .f64 pri, .int .i64 val, .int .i64 d0, .int .i64 d1, .int .i64 0, .int .i64 0, .int .i64 0, .int .i64 0, .int .i64 0, .bool false, .int .u64 0, .int .i64 0, .slice none 0 0, .int .u64 0, .int .i64 0, .slice none 0 0] 168)).heap.size = w.heap.size + 3 := by rw [World.size_alloc, hsz00]
  have hA0 := hA00.below ((Below.refl W0.heap.size W0).alloc (Nat.le_refl _) (.cells #[.int .i64 kind, .float .f64 pri, .int .i64 val, .int .i64 d0, .int .i64 d1, .int .i64 0, .int .i64 0, .int .i64 0, .int .i64 0, .int .i64 0, .bool false, .int .u64 0, .int .i64 0, .slice none 0 0, .int .u64 0, .int .i64 0, .slice none 0 0] 168))
  rw [hab] at hA0
  rw [hfb, hab]
  generalize W0.alloc (.cells #[.int .i64 kind, .float .f64 pri, .int .i64 val, .int .i64 d0, .int .i64 d1, .int .i64 0, .int .i64 0, .int .i64 0, .int .i64 0, .int .i64 0, .bool false, .int .u64 0, .int .i64 0, .slice none 0 0, .int .u64 0, .int .i64 0, .slice none 0 0] 168) = W1 at *
  have hM1 := h.below hb0
  have hF1 : FrAt W1 fb (fun k => k = fb) (Fr.of kind pri val d0 d1) := ⟨rfl, fun k e => by rw [e]; exact hfr.lt, none, 0, none, 0, hfr, SlAt.nil _ _, SlAt.nil _ _, (fun j hj => by obtain ⟨y, hy, _⟩ := hj; cases hy), (fun j hj => by obtain ⟨y, hy, _⟩ := hj; cases hy)⟩
  have hOf : ∀ k, O k → k < w.heap.size := h.lt
  have hLt := hidq (And.intro hfb (And.intro hab hsz1))
  have HA := hidq hA0
  have HB := hidq hb0
  have HG := hidq hg
  have HST := hidq hst
  have HFN := hidq hfn
  have HCK := hidq hck
  clear hfb hab hsz1 hA0 hb0 hb00 hsz00 hA00 hfr h hg hst hfn hck
  go_loopw [17] (fun s wr => ∃ (k : Nat) (Mk : Mem) (Fk : Fr) (Ok Pk : Nat → Prop), s = .int .i64 (k : Int) ∧ ((k : Int) ≤ most ∨ k = 0) ∧ MemAt wr b Ok Mk ∧ FrAt wr fb Pk Fk ∧ (∀ j, Ok j → ¬ Pk j) ∧ Grown O W1 wr Ok ∧ Grown (fun j => j = fb) W1 wr Pk ∧ But (fun j => O j ∨ j = fb) W1 wr ∧ G Mk Fk ∧ Mk.clock ≤ M.clock + k ∧ Hid (alone st most.toNat M (Fr.of kind pri val d0 d1) = alone st (most.toNat - k) Mk Fk)) (fun s _ => (most - intOf s).toNat)
  case atStart =>
    obtain ⟨hfb, hab, hz1⟩ := hLt.out
    exact ⟨0, M, _, O, _, rfl, .inr rfl, hM1, hF1, fun j hj e => by have := hOf _ hj; omega, Grown.refl _ _ _, Grown.refl _ _ _, But.refl _ _, HG.out, Nat.le_refl _, hidq rfl⟩
  case round =>
    obtain ⟨k, Mk, Fk, Ok, Pk, rfl, hk, hM, hF, hD, hGO, hGP, hB, hg, hck, hal⟩ := hrel
    obtain ⟨hfb, hab, hz1⟩ := hLt.out
    have hsz := hB.size
    have hnab : ¬ (O ab ∨ ab = fb) := by
      rintro (e | e)
      · have := hOf _ e; omega
      · omega
    have hAr := HA.out.but hB hnab
    have hck0 := HCK.out
    by_cases hlt : (k : Int) < most
    · obtain ⟨m, hm2⟩ : ∃ m, most.toNat - k = m + 1 := ⟨most.toNat - k - 1, by omega⟩
      have hS := hidq (HST.out wr b fb Ok Pk Mk Fk hM hF hD hg (by omega))
      have hon := HFN.out.on Mk Fk hg
      have hcl := HFN.out.clock Mk Fk
      have HAL := hidq (fun r (hr : st Mk Fk = r) => (show alone st most.toNat M (Fr.of kind pri val d0 d1) = if r.2.2.2 = true then (r.1, r.2.2.1, true) else alone st m r.1 r.2.1 from by rw [hal.out, hm2, ← hr]; rfl))
      generalize hr : st Mk Fk = r at *
      obtain ⟨M', F', A, d⟩ := r
      have HAL2 := hidq (HAL.out _ rfl)
      have HM2 := hidq hm2
      have HCLK := hidq (And.intro hck hcl)
      have HON0 := hidq hon
      have HE := hidq (And.intro hfb (And.intro hab hz1))
      clear hM hF hr HAL hal hm2 hck hcl hck0 hon hfb hab hz1 hg
      go_wp2_with fail
      refine hS.out.mono ?_
      rintro e w2 ⟨rfl, O2, P2, hM2, hF2, hD2, hGO2, hGP2, hB2⟩
      have hs2 := hB2.size
      obtain ⟨hfb, hab, hz1⟩ := HE.out
      have hOk : ∀ j, Ok j → j ≠ ab := fun j hj e => by
        rcases hGO j hj with q | q
        · have := hOf _ q; omega
        · omega
      have hPk : ∀ j, Pk j → j ≠ ab := fun j hj e => by
        rcases hGP j hj with q | q
        · omega
        · omega
      have hA2 := hAr.but hB2 (fun e => by
        rcases e with e | e
        · exact hOk _ e rfl
        · exact hPk _ e rfl)
      have hBall : But (fun j => O j ∨ j = fb) W1 w2 := hB.then hB2 (fun j hj e => by
        rcases e with e | e
        · rcases hGO j e with q | q
          · exact .inl q
          · omega
        · rcases hGP j e with q | q
          · exact .inr q
          · omega)
      have hGO' := hGO.trans hGO2 hsz hs2
      have hGP' := hGP.trans hGP2 hsz hs2
      obtain ⟨g0, x0⟩ := hA2.get 0 _ rfl
      obtain ⟨g1, x1⟩ := hA2.get 1 _ rfl
      obtain ⟨g2, x2⟩ := hA2.get 2 _ rfl
      obtain ⟨g3, x3⟩ := hA2.get 3 _ rfl
      have hal2 := hA2.lt
      obtain ⟨aok, api, av, an⟩ := A
      dsimp only [Ans.v] at *
      cases d
      · have hon2 := HON0.out rfl
        have FIN := hidq (fun w4 (h4 : But (fun j => j = w2.heap.size) w2 w4) => (show MemAt w4 b O2 M' ∧ FrAt w4 fb P2 F' ∧ Grown O W1 w4 O2 ∧ Grown (fun j => j = fb) W1 w4 P2 ∧ But (fun j => O j ∨ j = fb) W1 w4 from by
          have hs4 := h4.size
          refine ⟨hM2.but h4 (fun j hj e => by have := hM2.lt j hj; omega), hF2.but h4 (fun j hj e => by have := hF2.lt j hj; omega), ?_, ?_, hBall.then h4 (fun j hj e => by omega)⟩
          · intro j hj
            rcases hGO' j hj with q | q
            · exact .inl q
            · exact .inr ⟨q.1, by omega⟩
          · intro j hj
            rcases hGP' j hj with q | q
            · exact .inl q
            · exact .inr ⟨q.1, by omega⟩))
        have HON := hidq hon2
        have HD2 := hidq hD2
        clear hM2 hF2 hB2 hB hBall hon2 hA2 hGO hGP hGO2 hGP2 hGO' hGP' hD hD2 hS hAr g0 x0 g1 x1 g2 x2 g3 x3 hfb hab hz1
        go_wp2
        go_roundw
        case rel =>
          obtain ⟨e1, e2, e3, e4, e5⟩ := FIN.out _ ((But.refl _ w2).alloc _)
          refine ⟨k + 1, M', F', O2, P2, by go_num, .inl (by omega), e1, e2, HD2.out, e3, e4, e5, HON.out, by have := HCLK.out; omega, hidq ?_⟩
          rw [HAL2.out, show most.toNat - (k + 1) = m by have := HM2.out; omega]
          rfl
        case measure => simp [intOf]; omega
      · have HAL3 : alone st most.toNat M (Fr.of kind pri val d0 d1) = (M', ⟨aok, api, av, an⟩, true) := by rw [HAL2.out]; rfl
        have HAL4 := hidq HAL3
        have FIN := hidq (fun w4 (h4 : But (fun j => j = w2.heap.size ∨ j = ab) w2 w4) => (show AEnd b O (M', ⟨aok, api, av, an⟩, true) w (.returned (.tuple #[(⟨aok, api, av, an⟩ : Ans).v, .bool true])) w4 from by
          have hs4 := h4.size
          refine ⟨rfl, O2, hM2.but h4 (fun j hj e => ?_), ?_, ?_⟩
          · rcases e with e | e
            · have := hM2.lt j hj; omega
            · subst e
              rcases hGO' _ hj with q | q
              · have := hOf _ q; omega
              · omega
          · intro j hj
            rcases hGO' j hj with q | q
            · exact .inl q
            · exact .inr ⟨by omega, by omega⟩
          · refine ((But.of_below HB.out).then hBall (fun j hj e => ?_)).then h4 (fun j hj e => by omega)
            rcases e with e | e
            · exact e
            · omega))
        have GA := hidq (fun o => (setBox_box (⟨aok, api, av, an⟩ : Ans).s hA2).below ((Below.refl _ _).alloc (Nat.le_refl _) o))
        clear hM2 hF2 hB2 hB hBall HAL2 HAL3 hA2 hGO hGP hGO2 hGP2 hGO' hGP' hD hD2 hS hAr HCLK HM2 hfb hz1
        go_wp2
        exact ret_ans (A := ⟨aok, api, av, an⟩) Try.results50 (GA.out _) rfl rfl rfl (by
          rw [HAL4.out]
          exact FIN.out _ ((((((But.refl _ w2).set1 _ _ (.inr rfl) _).set1 _ _ (.inr rfl) _).set1 _ _ (.inr rfl) _).set1 _ _ (.inr rfl) _).alloc _))
    · have hdl : decide ((k : Int) < most) = false := decide_eq_false hlt
      have hm0 : most.toNat - k = 0 := by omega
      have HAL : Hid (alone st most.toNat M (Fr.of kind pri val d0 d1) = (Mk, Ans.zero, false)) := hidq (by rw [hal.out, hm0]; rfl)
      have FIN := hidq (fun w4 (h4 : But (fun j => j = ab) wr w4) => (show AEnd b O (Mk, Ans.zero, false) w (.returned (.tuple #[Ans.zero.v, .bool false])) w4 from by
          have hs4 := h4.size
          refine ⟨rfl, Ok, hM.but h4 (fun j hj e => ?_), ?_, ?_⟩
          · subst e
            rcases hGO _ hj with q | q
            · have := hOf _ q; omega
            · omega
          · intro j hj
            rcases hGO j hj with q | q
            · exact .inl q
            · exact .inr ⟨by omega, by omega⟩
          · refine ((But.of_below HB.out).then hB (fun j hj e => ?_)).then h4 (fun j hj e => by omega)
            rcases e with e | e
            · exact e
            · omega))
      have GA := hidq (setBox_box Ans.zero.s hAr)
      obtain ⟨g0, x0⟩ := hAr.get 0 _ rfl
      obtain ⟨g1, x1⟩ := hAr.get 1 _ rfl
      obtain ⟨g2, x2⟩ := hAr.get 2 _ rfl
      obtain ⟨g3, x3⟩ := hAr.get 3 _ rfl
      clear hM hF hD hGO hGP hB hg hck hal hfb hab hz1 hsz hnab hAr hck0 hm0
      go_wp2
      exact ret_ans (A := Ans.zero) Try.results50 GA.out rfl rfl rfl (by
        rw [HAL.out]
        exact FIN.out _ (((((But.refl (fun j => j = ab) wr).set1 _ _ rfl _).set1 _ _ rfl _).set1 _ _ rfl _).set1 _ _ rfl _))
end Go.Proofs.Ythhechgjablklaa

namespace Go.Proofs.Ythhechgjablklaa
open Go.RowKit

theorem rinto_any (d n : Int) (w : World) (hn : n ≤ 9223372036854775807) :
    Calls Try.prog 44 #[.int .i64 d, .int .i64 n] w fun e w' => e = .returned (.int .i64 (into d n)) ∧ w' = w := by
  by_cases h : n < 1
  · rw [into_lo h]
    go_enter Try.func44, Try.ntmps44
    go_wp2
    go_ret
    exact ⟨rfl, rfl⟩
  · rw [into_hi h]
    have h1 : decide (n < 1) = false := decide_eq_false h
    have hn0 : (n == 0) = false := by simp; omega
    have hn1 : 1 ≤ n := by omega
    by_cases hm : d.tmod n < 0
    · have e1 := tmod_emod_neg hn1 hm
      have e2 := Int.lt_tmod_of_pos d (show 0 < n by omega)
      have hw : wrap64 (d.tmod n + n) = d % n := by unfold wrap64; omega
      have HW : Hid (∀ _ : Unit, wrap64 (d.tmod n + n) = d % n) := fun _ => hw
      clear e1 hw e2
      go_enter Try.func44, Try.ntmps44
      go_wp2
      go_ret
      exact ⟨by rw [← HW ()]; rfl, rfl⟩
    · have e1 : d.tmod n = d % n := tmod_emod_nonneg hn1 (by omega)
      have HW : Hid (∀ _ : Unit, d.tmod n = d % n) := fun _ => e1
      have hm1 : decide (d.tmod n < 0) = false := decide_eq_false hm
      clear e1
      go_enter Try.func44, Try.ntmps44
      go_wp2
      go_ret
      exact ⟨by rw [← HW ()]; rfl, rfl⟩

/-- The reference's Legal at a kind that is no Net. -/
theorem rlegal_any (k p : Int) (w : World) (hk : 1 ≤ k ∧ k ≤ 3) : Calls Try.prog 49 #[.int .i64 k, .int .i64 p] w fun e w' => e = .returned (.int .i64 (legal k p)) ∧ w' = w := by
  have hk1 : decide (k < 1) = false := decide_eq_false (by omega)
  have hk2 : decide (4 < k) = false := decide_eq_false (by omega)
  have hk4 : (k == 4) = false := by simp; omega
  by_cases hp : p < 1
  · rw [legal_par (by omega) (by omega)]
    clear hk
    go_enter Try.func49, Try.ntmps49
    go_wp2
    go_ret
    exact ⟨rfl, rfl⟩
  · have hp1 : decide (p < 1) = false := decide_eq_false hp
    by_cases hq : 16 < p
    · rw [legal_par (by omega) (by omega)]
      clear hk hp
      go_enter Try.func49, Try.ntmps49
      go_wp2
      go_ret
      exact ⟨rfl, rfl⟩
    · have hq1 : decide (16 < p) = false := decide_eq_false hq
      rw [legal_ok (by omega) (by omega) (by omega)]
      clear hk hp hq
      go_enter Try.func49, Try.ntmps49
      go_wp2
      go_ret
      exact ⟨rfl, rfl⟩
end Go.Proofs.Ythhechgjablklaa

namespace Go.Proofs.Ythhechgjablklaa
open Go.RowKit Go.Sort

theorem can_look {M : Mem} {k : Nat} (hk : k < 1000) : M.can (k : Int) (M.cell k).ver = true := can_yes hk rfl
theorem write_look {M : Mem} {k : Nat} (hk : k < 1000) (x : Int) (L : List It) : M.write (k : Int) (M.cell k).ver x L = M.put k x L := by
  unfold Mem.write; rw [if_pos (can_look hk)]; rfl

/-- An Insert alone. -/
theorem alone_ins (sh : Int) (hs : 1 ≤ sh ∧ sh ≤ 16) (M : Mem) (p n : Nat) (v d d1 : Int) (k : Nat) (hk : into d sh = (k : Int)) (hl : ¬ 62 ≤ (M.cell k).L.length) :
    alone (mStep sh) (n + 2) M (Fr.of 1 p v d d1) = (M.put k 0 (mWith (M.cell k).L p v), ⟨true, cbits p, v, 0⟩, true) := by
  have hr := into_rng (d := d) hs.1
  have hlk : M.look (into d sh) = M.cell k := by rw [hk, look_nat]
  have h1 : mStep sh M (Fr.of 1 p v d d1) = (M, { Fr.of 1 p v d d1 with c0 := M.cell k, pc := 2 }, Ans.zero, false) := by
    show insS sh M (Fr.of 1 p v d d1) = _
    rw [insS_read rfl (by show ¬ 62 ≤ (M.look (into d sh)).L.length; rw [hlk]; exact hl)]
    show (M, { Fr.of 1 p v d d1 with c0 := M.look (into d sh), pc := 2 }, Ans.zero, false) = _
    rw [hlk]
  rw [alone_on h1]
  have hc : M.can (into d sh) (M.cell k).ver = true := by rw [hk]; exact can_look (by omega)
  have h2 : mStep sh M { Fr.of 1 p v d d1 with c0 := M.cell k, pc := 2 } = (M.put k 0 (mWith (M.cell k).L p v), { Fr.of 1 p v d d1 with c0 := M.cell k }, ⟨true, cbits p, v, 0⟩, true) := by
    show insS sh M { Fr.of 1 p v d d1 with c0 := M.cell k, pc := 2 } = _
    rw [insS_write (by show (2 : Int) ≠ 0; decide) hc]
    show (M.write (into d sh) (M.cell k).ver 0 (mWith (M.cell k).L p v), _, _, _) = _
    rw [hk, write_look (by omega)]
    rfl
  exact alone_done h2
theorem alone_ins_full (sh : Int) (M : Mem) (p n : Nat) (v d d1 : Int) (k : Nat) (hk : into d sh = (k : Int)) (hl : 62 ≤ (M.cell k).L.length) :
    alone (mStep sh) (n + 1) M (Fr.of 1 p v d d1) = (M, Ans.zero, true) := by
  have hlk : M.look (into d sh) = M.cell k := by rw [hk, look_nat]
  have h1 : mStep sh M (Fr.of 1 p v d d1) = (M, { Fr.of 1 p v d d1 with c0 := M.look (into d sh) }, Ans.zero, true) := by
    show insS sh M (Fr.of 1 p v d d1) = _
    exact insS_full rfl (by show 62 ≤ (M.look (into d sh)).L.length; rw [hlk]; exact hl)
  exact alone_done h1
/-- A Delete alone. -/
theorem alone_del_none (sh : Int) (M : Mem) (p n : Nat) (v d d1 : Int) (k k1 : Nat) (hk : into d sh = (k : Int)) (hk1 : into d1 sh = (k1 : Int)) (hm : (mAhead (kis (M.cell k).L) (kis (M.cell k1).L)).2 = false) :
    alone (mStep sh) (n + 2) M (Fr.of 2 p v d d1) = (M, Ans.zero, true) := by
  have hlk : M.look (into d sh) = M.cell k := by rw [hk, look_nat]
  have hlk1 : M.look (into d1 sh) = M.cell k1 := by rw [hk1, look_nat]
  have h1 : mStep sh M (Fr.of 2 p v d d1) = (M, { Fr.of 2 p v d d1 with c0 := M.cell k, pc := 1 }, Ans.zero, false) := by
    show remS sh M (Fr.of 2 p v d d1) = _
    rw [remS_0 rfl]
    show (M, { Fr.of 2 p v d d1 with c0 := M.look (into d sh), pc := 1 }, Ans.zero, false) = _
    rw [hlk]
  rw [alone_on h1]
  have h2 : mStep sh M { Fr.of 2 p v d d1 with c0 := M.cell k, pc := 1 } = (M, { Fr.of 2 p v d d1 with c0 := M.cell k, pc := 1, c1 := M.look (into d1 sh) }, Ans.zero, true) := by
    show remS sh M { Fr.of 2 p v d d1 with c0 := M.cell k, pc := 1 } = _
    exact remS_1f rfl (by show (mAhead (kis (M.cell k).L) (kis (M.look (into d1 sh)).L)).2 = false; rw [hlk1]; exact hm)
  exact alone_done h2
theorem alone_del (sh : Int) (hs : 1 ≤ sh ∧ sh ≤ 16) (M : Mem) (p n : Nat) (v d d1 : Int) (k k1 : Nat) (x : KI) (K : List KI) (hk : into d sh = (k : Int)) (hk1 : into d1 sh = (k1 : Int)) (j : Nat)
    (hm : (mAhead (kis (M.cell k).L) (kis (M.cell k1).L) = (0, true) ∧ kis (M.cell k).L = x :: K ∧ j = k) ∨ (mAhead (kis (M.cell k).L) (kis (M.cell k1).L) = (1, true) ∧ kis (M.cell k1).L = x :: K ∧ j = k1)) :
    alone (mStep sh) (n + 3) M (Fr.of 2 p v d d1) = (M.put j 0 (kit K), ⟨true, x.b, x.v, 0⟩, true) := by
  have hr := into_rng (d := d) hs.1
  have hr1 := into_rng (d := d1) hs.1
  have hlk : M.look (into d sh) = M.cell k := by rw [hk, look_nat]
  have hlk1 : M.look (into d1 sh) = M.cell k1 := by rw [hk1, look_nat]
  have hm2 : (mAhead (kis (M.cell k).L) (kis (M.cell k1).L)).2 = true := by rcases hm with ⟨h, _⟩ | ⟨h, _⟩ <;> rw [h]
  have h1 : mStep sh M (Fr.of 2 p v d d1) = (M, { Fr.of 2 p v d d1 with c0 := M.cell k, pc := 1 }, Ans.zero, false) := by
    show remS sh M (Fr.of 2 p v d d1) = _
    rw [remS_0 rfl]
    show (M, { Fr.of 2 p v d d1 with c0 := M.look (into d sh), pc := 1 }, Ans.zero, false) = _
    rw [hlk]
  rw [show n + 3 = (n + 2) + 1 by omega, alone_on h1]
  have h2 : mStep sh M { Fr.of 2 p v d d1 with c0 := M.cell k, pc := 1 } = (M, { Fr.of 2 p v d d1 with c0 := M.cell k, c1 := M.cell k1, pc := 2 }, Ans.zero, false) := by
    show remS sh M { Fr.of 2 p v d d1 with c0 := M.cell k, pc := 1 } = _
    rw [remS_1t rfl (by show (mAhead (kis (M.cell k).L) (kis (M.look (into d1 sh)).L)).2 = true; rw [hlk1]; exact hm2)]
    show (M, { Fr.of 2 p v d d1 with c0 := M.cell k, c1 := M.look (into d1 sh), pc := 2 }, Ans.zero, false) = _
    rw [hlk1]
  rw [show n + 2 = (n + 1) + 1 by omega, alone_on h2]
  rcases hm with ⟨hma, hK, rfl⟩ | ⟨hma, hK, rfl⟩
  · have hc : M.can (into d sh) (M.cell j).ver = true := by rw [hk]; exact can_look (by omega)
    have h3 : mStep sh M { Fr.of 2 p v d d1 with c0 := M.cell j, c1 := M.cell k1, pc := 2 } = (M.put j 0 (kit K), { Fr.of 2 p v d d1 with c0 := M.cell j, c1 := M.cell k1 }, ⟨true, x.b, x.v, 0⟩, true) := by
      show remS sh M { Fr.of 2 p v d d1 with c0 := M.cell j, c1 := M.cell k1, pc := 2 } = _
      rw [remS_2a (x := x) (K := K) (by show (2 : Int) ≠ 0; decide) (by show (2 : Int) ≠ 1; decide) (by show (mAhead (kis (M.cell j).L) (kis (M.cell k1).L)).1 = 0; rw [hma]) hK]
      show (M.write (into d sh) (M.cell j).ver 0 (kit K), _, (if M.can (into d sh) (M.cell j).ver = true then (⟨true, x.b, x.v, 0⟩ : Ans) else Ans.zero), M.can (into d sh) (M.cell j).ver) = _
      rw [if_pos hc, hc, hk, write_look (by omega)]
      rfl
    exact alone_done h3
  · have hc : M.can (into d1 sh) (M.cell j).ver = true := by rw [hk1]; exact can_look (by omega)
    have h3 : mStep sh M { Fr.of 2 p v d d1 with c0 := M.cell k, c1 := M.cell j, pc := 2 } = (M.put j 0 (kit K), { Fr.of 2 p v d d1 with c0 := M.cell k, c1 := M.cell j }, ⟨true, x.b, x.v, 0⟩, true) := by
      show remS sh M { Fr.of 2 p v d d1 with c0 := M.cell k, c1 := M.cell j, pc := 2 } = _
      rw [remS_2b (x := x) (K := K) (by show (2 : Int) ≠ 0; decide) (by show (2 : Int) ≠ 1; decide) (by show (mAhead (kis (M.cell k).L) (kis (M.cell j).L)).1 = 1; rw [hma]) hK]
      show (M.write (into d1 sh) (M.cell j).ver 0 (kit K), _, (if M.can (into d1 sh) (M.cell j).ver = true then (⟨true, x.b, x.v, 0⟩ : Ans) else Ans.zero), M.can (into d1 sh) (M.cell j).ver) = _
      rw [if_pos hc, hc, hk1, write_look (by omega)]
      rfl
    exact alone_done h3

theorem fok_new (kind : Int) (p : Nat) (v d d1 : Int) (h : (kind = 1 ∧ p < 18446744073709551616) ∨ kind = 2) : FOk (Fr.of kind p v d d1) :=
  ⟨KOk.nil _, KOk.nil _, h.imp (fun ⟨a, b⟩ => ⟨a, b, fun e => absurd rfl e⟩) (fun a => ⟨a, fun e => absurd rfl e⟩)⟩

/-- An Insert, and what it leaves. -/
theorem insert_any (sh : Int) (hs : 1 ≤ sh ∧ sh ≤ 16) (b : Nat) (O : Nat → Prop) (M : Mem) (p : Nat) (v d d1 most : Int) (k : Nat) (hk : into d sh = (k : Int)) (w : World) (h : MemAt w b O M) (hM : MOk M) (hp : p < 18446744073709551616) (hl : (M.cell k).L.length ≤ 61) (hm : 2 ≤ most ∧ most ≤ 1000) (hck : M.clock < 4611686018427386000) :
    Calls Try.prog 50 #[.iface 114 (.agg #[.int .i64 sh]), .pointer (some ⟨b, 0, none⟩), .agg #[.int .i64 1, .float .f64 p, .int .i64 v, .int .i64 d, .int .i64 d1], .int .i64 most] w fun e w' =>
      e = .returned (.tuple #[.agg #[.bool true, .float .f64 (cbits p), .int .i64 v, .int .i64 0], .bool true]) ∧ ∃ O', MemAt w' b O' (M.put k 0 (mWith (M.cell k).L p v)) ∧ Grown O w w' O' ∧ But O w w' := by
  have := aloneM_any sh (mstep_is sh hs) (mFine sh) b O M 1 p v d d1 most w h ⟨hM, fok_new _ _ _ _ _ (.inl ⟨rfl, hp⟩)⟩ hm.2 hck
  rw [show most.toNat = (most.toNat - 2) + 2 by omega, alone_ins sh hs M p _ v d d1 k hk (by omega)] at this
  exact this
theorem insertFull_any (sh : Int) (hs : 1 ≤ sh ∧ sh ≤ 16) (b : Nat) (O : Nat → Prop) (M : Mem) (p : Nat) (v d d1 most : Int) (k : Nat) (hk : into d sh = (k : Int)) (w : World) (h : MemAt w b O M) (hM : MOk M) (hp : p < 18446744073709551616) (hl : 62 ≤ (M.cell k).L.length) (hm : 2 ≤ most ∧ most ≤ 1000) (hck : M.clock < 4611686018427386000) :
    Calls Try.prog 50 #[.iface 114 (.agg #[.int .i64 sh]), .pointer (some ⟨b, 0, none⟩), .agg #[.int .i64 1, .float .f64 p, .int .i64 v, .int .i64 d, .int .i64 d1], .int .i64 most] w fun e w' =>
      e = .returned (.tuple #[.agg #[.bool false, .float .f64 0, .int .i64 0, .int .i64 0], .bool true]) ∧ ∃ O', MemAt w' b O' M ∧ Grown O w w' O' ∧ But O w w' := by
  have := aloneM_any sh (mstep_is sh hs) (mFine sh) b O M 1 p v d d1 most w h ⟨hM, fok_new _ _ _ _ _ (.inl ⟨rfl, hp⟩)⟩ hm.2 hck
  rw [show most.toNat = (most.toNat - 1) + 1 by omega, alone_ins_full sh M p _ v d d1 k hk hl] at this
  exact this
/-- A Delete, and what it leaves. -/
theorem deleteNone_any (sh : Int) (hs : 1 ≤ sh ∧ sh ≤ 16) (b : Nat) (O : Nat → Prop) (M : Mem) (p : Nat) (v d d1 most : Int) (k k1 : Nat) (hk : into d sh = (k : Int)) (hk1 : into d1 sh = (k1 : Int)) (w : World) (h : MemAt w b O M) (hM : MOk M) (hl : (mAhead (kis (M.cell k).L) (kis (M.cell k1).L)).2 = false) (hm : 3 ≤ most ∧ most ≤ 1000) (hck : M.clock < 4611686018427386000) :
    Calls Try.prog 50 #[.iface 114 (.agg #[.int .i64 sh]), .pointer (some ⟨b, 0, none⟩), .agg #[.int .i64 2, .float .f64 p, .int .i64 v, .int .i64 d, .int .i64 d1], .int .i64 most] w fun e w' =>
      e = .returned (.tuple #[.agg #[.bool false, .float .f64 0, .int .i64 0, .int .i64 0], .bool true]) ∧ ∃ O', MemAt w' b O' M ∧ Grown O w w' O' ∧ But O w w' := by
  have := aloneM_any sh (mstep_is sh hs) (mFine sh) b O M 2 p v d d1 most w h ⟨hM, fok_new _ _ _ _ _ (.inr rfl)⟩ hm.2 hck
  rw [show most.toNat = (most.toNat - 2) + 2 by omega, alone_del_none sh M p _ v d d1 k k1 hk hk1 hl] at this
  exact this
theorem delete_any (sh : Int) (hs : 1 ≤ sh ∧ sh ≤ 16) (b : Nat) (O : Nat → Prop) (M : Mem) (p : Nat) (v d d1 most : Int) (k k1 : Nat) (x : KI) (K : List KI) (j : Nat) (hk : into d sh = (k : Int)) (hk1 : into d1 sh = (k1 : Int)) (w : World) (h : MemAt w b O M) (hM : MOk M)
    (hl : (mAhead (kis (M.cell k).L) (kis (M.cell k1).L) = (0, true) ∧ kis (M.cell k).L = x :: K ∧ j = k) ∨ (mAhead (kis (M.cell k).L) (kis (M.cell k1).L) = (1, true) ∧ kis (M.cell k1).L = x :: K ∧ j = k1)) (hm : 3 ≤ most ∧ most ≤ 1000) (hck : M.clock < 4611686018427386000) :
    Calls Try.prog 50 #[.iface 114 (.agg #[.int .i64 sh]), .pointer (some ⟨b, 0, none⟩), .agg #[.int .i64 2, .float .f64 p, .int .i64 v, .int .i64 d, .int .i64 d1], .int .i64 most] w fun e w' =>
      e = .returned (.tuple #[.agg #[.bool true, .float .f64 x.b, .int .i64 x.v, .int .i64 0], .bool true]) ∧ ∃ O', MemAt w' b O' (M.put j 0 (kit K)) ∧ Grown O w w' O' ∧ But O w w' := by
  have := aloneM_any sh (mstep_is sh hs) (mFine sh) b O M 2 p v d d1 most w h ⟨hM, fok_new _ _ _ _ _ (.inr rfl)⟩ hm.2 hck
  rw [show most.toNat = (most.toNat - 3) + 3 by omega, alone_del sh hs M p _ v d d1 k k1 x K hk hk1 j hl] at this
  exact this

theorem mnew_any (sh : Int) (w : World) : Calls Try.prog 53 #[.int .i64 sh] w fun e w' => e = .returned (.tuple #[.agg #[.int .i64 (if legal 1 sh = 0 then sh else 0)], .int .i64 (legal 1 sh)]) ∧ Below w.heap.size w w' := by
  have hL := fun w => legal_any 1 sh w
  obtain ⟨r, hr⟩ : ∃ r, legal 1 sh = r := ⟨_, rfl⟩
  rw [hr] at hL ⊢
  have hb0 : BoxAt (w.alloc (.cells #[.int .i64 0] 114)) w.heap.size [.int .i64 0] := BoxAt.new w [.int .i64 0] 114
  by_cases h0 : r = 0
  · rw [if_pos h0]
    subst h0
    clear hr
    go_enter Try.func53, Try.ntmps53
    go_wp2_with fail
    refine (hL _).mono ?_
    rintro e w2 ⟨rfl, hb⟩
    have hb2 := hb0.below hb
    obtain ⟨g0, x0⟩ := hb2.get 0 _ rfl
    have hsz := hb.size
    have HB := hidq (show Below w.heap.size w w2 from ((Below.refl _ _).alloc (Nat.le_refl _) _).trans (hb.mono (by simp)))
    clear hb hb0 hb2 hL
    go_wp2
    refine bodyPost_ret (v := .tuple #[.agg #[.int .i64 sh], .int .i64 0]) ?_ rfl ⟨rfl, HB.out.setCell (Nat.le_refl _) _⟩
    simp [results, Try.results53, go_sem, World.cell?_setCell_same', g0]
  · rw [if_neg h0]
    have hr0 : (r == 0) = false := by simpa using h0
    clear hr h0
    go_enter Try.func53, Try.ntmps53
    go_wp2_with fail
    refine (hL _).mono ?_
    rintro e w2 ⟨rfl, hb⟩
    have hb2 := hb0.below hb
    obtain ⟨g0, x0⟩ := hb2.get 0 _ rfl
    have hsz := hb.size
    have HB := hidq (show Below w.heap.size w w2 from ((Below.refl _ _).alloc (Nat.le_refl _) _).trans (hb.mono (by simp)))
    clear hb hb0 hb2 hL
    go_wp2
    refine bodyPost_ret (v := .tuple #[.agg #[.int .i64 0], .int .i64 r]) ?_ rfl ⟨rfl, HB.out.setCell (Nat.le_refl _) _⟩
    simp [results, Try.results53, go_sem, World.cell?_setCell_same', g0]
end Go.Proofs.Ythhechgjablklaa

namespace Go.Proofs.Ythhechgjablklaa
open Go.RowKit Go.Sort
namespace Ar

theorem getD_false {L : Array Bool} {i : Nat} (h : L.getD i true = false) : L.getD i false = false := by
  rw [Array.getD_eq_getD_getElem?] at *
  cases e : L[i]? with
  | none => simp
  | some b => rw [e] at h; simpa using h
theorem getD_set_ne {L : Array Bool} {k j : Nat} (h : j ≠ k) : (L.setIfInBounds k true).getD j false = L.getD j false := by
  rw [Array.getD_eq_getD_getElem?, Array.getD_eq_getD_getElem?, Array.getElem?_setIfInBounds, if_neg (fun e => h e.symm)]
theorem getD_set_same {L : Array Bool} {k : Nat} (h : L.getD k true = false) : (L.setIfInBounds k true).getD k false = true := by
  have hk : k < L.size := by
    rcases Nat.lt_or_ge k L.size with e | e
    · exact e
    · rw [Array.getD_eq_getD_getElem?, Array.getElem?_eq_none e] at h; cases h
  rw [Array.getD_eq_getD_getElem?, Array.getElem?_setIfInBounds, if_pos rfl, if_pos hk]; rfl
theorem out_skip {P : Program} {K : Value → World → Prop} {ev : Operand → Value} {o : Oper} {w w' : World} (hrun : (execOp ev o).run P w = .ok .skip w') (hk : K undef w') : Reg.Outcome P K ((execOp ev o).run P w) := by
  rw [hrun]; exact hk

/-- What the memory owns; where the answer's box lies. -/
abbrev Gh := (Nat → Prop) × Option Nat
def Pres (x : Gh) (_ : World) (x' : Gh) (_ : World) : Prop := ∀ b, x.2 = some b → x'.2 = some b
theorem Pres.refl (x : Gh) (w w' : World) : Pres x w x w' := fun _ h => h

/-- While it goes on: iA is the operation's number, iL the box's, iS the store's. -/
structure GI (w0 wS : World) (OS : Nat → Prop) (sb : Nat) (ls : List Value) (mb : Nat) (M0 M1 : Mem) (A : Ans) (iA iL iS : Nat) (x : Gh) (L : Array Bool) (w : World) : Prop where
  st : St w0 w sb ls mb x.1 (if L.getD iA false = true then M1 else M0)
  no : L.getD iL false = false → x.2 = none
  yes : L.getD iL false = true → ∃ bx, x.2 = some bx
  chg : But OS wS w
  grow : Grown OS wS w x.1
  box : ∀ bx, x.2 = some bx → wS.heap.size ≤ bx ∧ w0.heap.size ≤ bx ∧ ¬ x.1 bx ∧ bx ≠ sb ∧ BoxAt w bx (if L.getD iS false = true then A.l else Ans.zero.l)
section
variable {w0 wS : World} {OS : Nat → Prop} {sb mb iA iL iS : Nat} {ls : List Value} {M0 M1 : Mem} {A : Ans} {x : Gh} {L : Array Bool} {w w' : World} {O : Nat → Prop}
theorem GI.start (h : St w0 w sb ls mb O M0) (n : Nat) : GI w0 w O sb ls mb M0 M1 A iA iL iS (O, none) (Array.replicate n false) w.drew := by
  have hz : ∀ i, (Array.replicate n false).getD i false = false := fun i => by
    rw [Array.getD_eq_getD_getElem?, Array.getElem?_replicate]
    split <;> rfl
  refine ⟨?_, fun _ => rfl, fun e => ?_, (But.refl _ _).drew, Grown.refl _ _ _, fun bx hx => by cases hx⟩
  · rw [hz]; exact h.below (Below.refl _ _).drew
  · rw [hz] at e; cases e
theorem GI.quiet (h : GI w0 wS OS sb ls mb M0 M1 A iA iL iS x L w) (i : Nat) (h1 : iA ≠ i) (h2 : iL ≠ i) (h3 : iS ≠ i) : GI w0 wS OS sb ls mb M0 M1 A iA iL iS x (L.setIfInBounds i true) w := by
  refine ⟨?_, ?_, ?_, h.chg, h.grow, ?_⟩
  · rw [getD_set_ne h1]; exact h.st
  · rw [getD_set_ne h2]; exact h.no
  · rw [getD_set_ne h2]; exact h.yes
  · rw [getD_set_ne h3]; exact h.box
theorem GI.below (h : GI w0 wS OS sb ls mb M0 M1 A iA iL iS x L w) (hb : Below w.heap.size w w') : GI w0 wS OS sb ls mb M0 M1 A iA iL iS x L w' :=
  ⟨h.st.below hb, h.no, h.yes, h.chg.trans (But.of_below hb), fun k hk => (h.grow k hk).imp id (fun q => ⟨q.1, Nat.lt_of_lt_of_le q.2 hb.size⟩), fun bx hx => ⟨(h.box bx hx).1, (h.box bx hx).2.1, (h.box bx hx).2.2.1, (h.box bx hx).2.2.2.1, (h.box bx hx).2.2.2.2.below hb⟩⟩
theorem GI.mem0 (h : GI w0 wS OS sb ls mb M0 M1 A iA iL iS x L w) (hk : L.getD iA true = false) : MemAt w mb x.1 M0 := by
  have := h.st.mem
  rw [getD_false hk] at this
  exact this
theorem GI.call (h : GI w0 wS OS sb ls mb M0 M1 A iA iL iS x L w) (hk : L.getD iA true = false) (h2 : iL ≠ iA) (h3 : iS ≠ iA) {O' : Nat → Prop} (hM : MemAt w' mb O' M1) (hG : Grown x.1 w w' O') (hB : But x.1 w w') :
    GI w0 wS OS sb ls mb M0 M1 A iA iL iS (O', x.2) (L.setIfInBounds iA true) w' := by
  refine ⟨?_, ?_, ?_, h.chg.then hB (fun k hk e => (h.grow k e).elim id (fun q => by omega)), h.grow.trans hG h.chg.size hB.size, ?_⟩
  · rw [getD_set_same hk, if_pos rfl]
    exact h.st.call hM hG hB
  · rw [getD_set_ne h2]; exact h.no
  · rw [getD_set_ne h2]; exact h.yes
  · rw [getD_set_ne h3]
    intro bx hx
    obtain ⟨a0, a, b, c, d⟩ := h.box bx hx
    refine ⟨a0, a, fun e => ?_, c, d.but hB b⟩
    rcases hG bx e with q | q
    · exact b q
    · have := d.lt; omega
theorem GI.alloc (h : GI w0 wS OS sb ls mb M0 M1 A iA iL iS x L w) (hk : L.getD iL true = false) (hS : L.getD iS false = false) (h1 : iA ≠ iL) (h3 : iS ≠ iL) (t : TypeId) :
    GI w0 wS OS sb ls mb M0 M1 A iA iL iS (x.1, some w.heap.size) (L.setIfInBounds iL true) (w.alloc (.cells Ans.zero.l.toArray t)) := by
  refine ⟨?_, ?_, ?_, h.chg.alloc _, fun k hk => (h.grow k hk).imp id (fun q => ⟨q.1, by rw [World.size_alloc]; omega⟩), ?_⟩
  · rw [getD_set_ne h1]; exact h.st.alloc _
  · rw [getD_set_same hk]; intro e; cases e
  · intro _; exact ⟨_, rfl⟩
  · intro bx hx
    cases hx
    rw [getD_set_ne h3, hS]
    refine ⟨h.chg.size, h.st.low.size, fun e => ?_, fun e => ?_, BoxAt.new w Ans.zero.l t⟩
    · have := h.st.mem.lt _ e; omega
    · have := h.st.box.lt; omega
theorem GI.store (h : GI w0 wS OS sb ls mb M0 M1 A iA iL iS x L w) (hk : L.getD iS true = false) (h1 : iA ≠ iS) (h2 : iL ≠ iS) {bx : Nat} (hx : x.2 = some bx) : GI w0 wS OS sb ls mb M0 M1 A iA iL iS x (L.setIfInBounds iS true) (setBox w bx A.s) := by
  obtain ⟨a0, a, b, c, d⟩ := h.box bx hx
  rw [getD_false hk] at d
  have hb := setBox_but bx A.s w
  refine ⟨?_, ?_, ?_, h.chg.then hb (fun k hk e => by omega), fun k hk => (h.grow k hk).imp id (fun q => ⟨q.1, by rw [setBox_size]; exact q.2⟩), ?_⟩
  · rw [getD_set_ne h1]
    exact ⟨h.st.mem.but hb (fun k hk e => b (e ▸ hk)), h.st.own, h.st.box.but hb (fun e => c e.symm), h.st.low.trans (hb.below h.st.low.size (fun k e => by omega))⟩
  · rw [getD_set_ne h2]; exact h.no
  · rw [getD_set_ne h2]; exact h.yes
  · intro by_ hy
    rw [hx] at hy
    cases hy
    rw [getD_set_same hk, if_pos rfl]
    exact ⟨a0, a, b, c, setBox_box A.s d⟩
end
end Ar
end Go.Proofs.Ythhechgjablklaa

namespace Go.Proofs.Ythhechgjablklaa
open Go.RowKit Go.Sort

/-- Items in the making, as an argument. -/
def Raws (w : World) (a : Option Addr) (n : Nat) (K M : Nat → Int) : Prop :=
  ∀ i, i < n → ∃ g off, a = some ⟨g, off, none⟩ ∧ g < w.heap.size ∧ w.cell? ⟨g, off + i * 2, none⟩ = some (.int .u64 (K i)) ∧ w.cell? ⟨g, off + i * 2 + 1, none⟩ = some (.int .i64 (M i)) ∧ 0 ≤ K i ∧ K i < 18446744073709551616
theorem Raws.below {w w' : World} {a : Option Addr} {n : Nat} {K M : Nat → Int} (h : Raws w a n K M) (hb : Below w.heap.size w w') : Raws w' a n K M := fun i hi => by
  obtain ⟨g, off, h1, h2, h3, h4, h5⟩ := h i hi
  exact ⟨g, off, h1, Nat.lt_of_lt_of_le h2 hb.size, by rw [hb.cell (p := ⟨g, off + i * 2, none⟩) h2]; exact h3, by rw [hb.cell (p := ⟨g, off + i * 2 + 1, none⟩) h2]; exact h4, h5⟩
theorem Raws.but {S : Nat → Prop} {w w' : World} {a : Option Addr} {n : Nat} {K M : Nat → Int} (h : Raws w a n K M) (hb : But S w w') (hS : ∀ k, inB a k → ¬ S k) : Raws w' a n K M := fun i hi => by
  obtain ⟨g, off, h1, h2, h3, h4, h5⟩ := h i hi
  have hn : ¬ S g := hS g ⟨_, h1, rfl⟩
  exact ⟨g, off, h1, Nat.lt_of_lt_of_le h2 hb.size, by rw [hb.cell (p := ⟨g, off + i * 2, none⟩) h2 hn]; exact h3, by rw [hb.cell (p := ⟨g, off + i * 2 + 1, none⟩) h2 hn]; exact h4, h5⟩

/-- The items that are made of them. -/
def rawL (K V : Nat → Int) (n : Nat) : List KI := (List.range n).map (kiOf K V)
theorem rawL_length (K V : Nat → Int) (n : Nat) : (rawL K V n).length = n := by simp [rawL]
theorem rawL_succ (K V : Nat → Int) (n : Nat) : rawL K V (n + 1) = rawL K V n ++ [kiOf K V n] := by simp [rawL, List.range_succ]
def kt (x : KI) : It := (x.b, x.v)
def kts (L : List KI) : List It := L.map kt
theorem kts_length (L : List KI) : (kts L).length = L.length := by simp [kts]
theorem kts_append (L M : List KI) : kts (L ++ M) = kts L ++ kts M := by simp [kts]
end Go.Proofs.Ythhechgjablklaa

namespace Go.Proofs.Ythhechgjablklaa
open Go.RowKit Go.Sort

def sorted9R (mb g off n cap k : Nat) (P V : Nat → Int) (A : Ans) : List (Value → Ar.Gh → World → Prop) :=
  [fun u0 _ _ => u0 = .agg #[.int .i64 1],
   fun u0 _ _ => u0 = .iface 114 (.agg #[.int .i64 1]),
   fun u0 _ _ => u0 = .pointer (some ⟨mb, 0, none⟩),
   fun u0 _ _ => u0 = .slice (some ⟨g, off, none⟩) n cap,
   fun u0 _ _ => u0 = .int .i64 (k : Int),
   fun u0 _ _ => u0 = .pointer (some ⟨g, off + k * 2, none⟩),
   fun u0 _ _ => u0 = .agg #[.int .u64 (P k), .int .i64 (V k)],
   fun u0 _ _ => u0 = .agg #[.float .f64 (nf (P k)), .int .i64 (V k)],
   fun u0 _ _ => u0 = .agg #[.int .i64 1, .float .f64 (nf (P k)), .int .i64 (V k), .int .i64 0, .int .i64 0],
   fun u0 _ _ => u0 = .tuple #[.agg #[.bool A.ok, .float .f64 A.pri, .int .i64 A.val, .int .i64 A.n], .bool true],
   fun u0 _ _ => u0 = .tuple #[.agg #[.bool A.ok, .float .f64 A.pri, .int .i64 A.val, .int .i64 A.n], .bool true],
   fun u0 _ _ => u0 = .agg #[.bool A.ok, .float .f64 A.pri, .int .i64 A.val, .int .i64 A.n],
   fun u0 _ _ => u0 = .bool true,
   fun u0 x _ => ∃ bx, x.2 = some bx ∧ u0 = .pointer (some ⟨bx, 0, none⟩),
   fun _ _ _ => True,
   fun u0 _ _ => u0 = .bool true]
theorem sorted9R_kept (mb g off n cap k : Nat) (P V : Nat → Int) (A : Ans) : Reg.GAllKept Ar.Pres (sorted9R mb g off n cap k P V A) :=
  ⟨(fun _ _ _ _ _ _ h => h), (fun _ _ _ _ _ _ h => h), (fun _ _ _ _ _ _ h => h), (fun _ _ _ _ _ _ h => h), (fun _ _ _ _ _ _ h => h), (fun _ _ _ _ _ _ h => h), (fun _ _ _ _ _ _ h => h), (fun _ _ _ _ _ _ h => h), (fun _ _ _ _ _ _ h => h), (fun _ _ _ _ _ _ h => h), (fun _ _ _ _ _ _ h => h), (fun _ _ _ _ _ _ h => h), (fun _ _ _ _ _ _ h => h), (fun _ _ _ _ _ hp h => by obtain ⟨bx, h1, h2⟩ := h; exact ⟨bx, hp bx h1, h2⟩), (fun _ _ _ _ _ _ h => h), (fun _ _ _ _ _ _ h => h), trivial⟩

theorem flat_row {w : World} {g cap : Nat} {K : List KI} (h : Flat 2 w g cap K.length (flatI (kit K))) (hl : K.length ≤ 1099511627776) : Row w g cap K.toArray := by
  have hs : K.toArray.size = K.length := by simp
  refine ⟨h.lt, by rw [hs]; exact h.le, by rw [hs]; exact hl, h.cmax, fun i hi => ?_, fun i hi => ?_, h.there⟩
  · have hi' : i < K.length := by rw [← hs]; exact hi
    have hx : K.toArray[i]! = K[i] := by rw [getElem!_pos K.toArray i hi]; rfl
    have := h.cell _ _ (flatI_get (kit K) i (by rw [kit_length]; exact hi')).1
    rw [this, hx]; simp [kit]
  · have hi' : i < K.length := by rw [← hs]; exact hi
    have hx : K.toArray[i]! = K[i] := by rw [getElem!_pos K.toArray i hi]; rfl
    have := h.cell _ _ (flatI_get (kit K) i (by rw [kit_length]; exact hi')).2
    rw [this, hx]; simp [kit]
theorem mWith_wth {K : List KI} (h : InOrder K) (p : Nat) (v : Int) : mWith (kit K) p v = kit (wth (mkKI p v) K) := by
  unfold mWith
  rw [kis_kit, wth_ins]
  exact congrArg kit (order_eq _ _ ((srt_perm _).trans (ins_perm _ _).symm) (srt_order _) (ins_order _ _ h))
theorem mAhead_self (x : KI) (K : List KI) : mAhead (x :: K) (x :: K) = (0, true) := by
  have : x.lt x = false := by
    cases h2 : KI.lt x x
    · rfl
    · have := Hp.asym KI.swo h2; rw [h2] at this; cases this
  simp [mAhead, this]

theorem live_any (w : World) : Calls Try.prog 55 #[] w fun e w' => e = .returned (.bool true) ∧ Below w.heap.size w w' := by
  have h1 := fun w => into_any (-1) 5 w (by omega)
  have h2 := fun w => legal_any 1 17 w
  rw [show into (-1) 5 = 4 by decide] at h1
  rw [show legal 1 17 = 5 by decide] at h2
  go_enter Try.func55, Try.ntmps55
  go_wp2_with (first
    | (go_at_call 83; refine (h1 _).mono ?_; rintro e w1 ⟨rfl, hw⟩; replace hw := hw.symm; subst hw)
    | (go_at_call 81; refine (h2 _).mono ?_; rintro e w1 ⟨rfl, hb1⟩))
  go_ret
  exact ⟨rfl, hb1⟩

/-- While items come: so many have come. -/
def CS1 (w : World) (sb mb : Nat) (P V : Nat → Int) (k gr cr : Nat) (wr : World) : Prop :=
  ∃ (O : Nat → Prop) (M : Mem), St w wr sb [.int .i64 1] mb O M ∧ MOk M ∧ (M.cell 0).L = kit (rsrt P V k) ∧ M.clock ≤ k ∧ w.heap.size ≤ gr ∧ ¬ O gr ∧ Flat 2 wr gr cr k (flatR (rsrt P V k))

/-- While they go: so many have gone. -/
def CS2 (w : World) (sb mb : Nat) (K : List KI) (k gr cr j gg cg : Nat) (wr : World) : Prop :=
  ∃ (O : Nat → Prop) (M : Mem), St w wr sb [.int .i64 1] mb O M ∧ MOk M ∧ (M.cell 0).L = kit (K.drop j) ∧ M.clock ≤ k + j ∧ w.heap.size ≤ gg ∧ ¬ O gg ∧ gg ≠ gr ∧ gg ≠ sb ∧ Flat 2 wr gg cg (min j k) (flatI (kit (K.take j))) ∧ ¬ O gr ∧ Flat 2 wr gr cr k (flatR K)
theorem St.but {w W W' : World} {sb mb : Nat} {l : List Value} {O S : Nat → Prop} {M : Mem} (h : St w W sb l mb O M) (hb : But S W W') (hO : ∀ k, O k → ¬ S k) (hs : ¬ S sb) (hl : ∀ k, S k → w.heap.size ≤ k) : St w W' sb l mb O M :=
  ⟨h.mem.but hb hO, h.own, h.box.but hb hs, h.low.trans (hb.below h.low.size hl)⟩

set_option maxRecDepth 20000 in
set_option maxHeartbeats 16000000 in
theorem sorted_all (a : Option Addr) (n cap : Nat) (P V : Nat → Int) (w : World) (hr : Raws w a n P V) :
    Calls Try.prog 15 #[.slice a n cap] w fun e w' => e = .returned (.bool true) ∧ Below w.heap.size w w' := by
  have hsf := run_store_flt (P := Try.prog)
  have hN := fun w => mnew_any 1 w
  rw [show (if legal 1 1 = 0 then (1 : Int) else 0) = 1 by decide, show legal 1 1 = 0 by decide] at hN
  go_enter Try.func15, Try.ntmps15
  go_wp2_with fail
  refine (hN _).mono ?_
  rintro e w1 ⟨rfl, hb1⟩
  have hB1 : BoxAt (w1.alloc (.cells #[.int .i64 1] 114)) w1.heap.size [.int .i64 1] := BoxAt.new w1 [.int .i64 1] 114
  go_wp2_with fail
  refine (live_any _).mono ?_
  rintro e w2 ⟨rfl, hb2⟩
  have hB2 := hB1.below hb2
  go_wp2_with fail
  refine (new5_any _).mono ?_
  rintro e w3 ⟨rfl, hM3, hb3⟩
  have hB3 := hB2.below hb3
  obtain ⟨sb, hsb⟩ : ∃ sb, w1.heap.size = sb := ⟨_, rfl⟩
  obtain ⟨mb, hmb⟩ : ∃ mb, w2.heap.size = mb := ⟨_, rfl⟩
  rw [hmb] at hM3 ⊢
  rw [hsb] at hB3 ⊢
  have hS0 : St w w3 sb [.int .i64 1] mb (fun k => k = mb) Mem.empty := by
    have s1 := hb1.size
    have s2 := hb2.size
    have s3 : (w1.alloc (.cells #[.int .i64 1] 114)).heap.size = w1.heap.size + 1 := by simp
    exact ⟨hM3, fun k e => by omega, hB3, ((hb1.trans ((Below.refl _ _).alloc s1 _)).trans (hb2.mono (by omega))).trans (hb3.mono (by omega))⟩
  have hF0 : Flat 2 (w3.alloc (.cells #[] 35)) w3.heap.size 0 0 [] := Flat.new w3 [] 35 2 0 rfl (Nat.zero_le _) (fun _ h => (by cases h))
  have HT0 := hidq (show CS1 w sb mb P V 0 w3.heap.size 0 (w3.alloc (.cells #[] 35)) from
    ⟨_, _, hS0.alloc _, MOk.empty, rfl, Nat.le_refl _, hS0.low.size, fun e => by have := hS0.mem.lt _ e; omega, hF0⟩)
  clear hS0 hF0 hB1 hB2 hB3 hM3 hb1 hb2 hb3 hN hmb hsb
  go_wp2_with fail
  obtain ⟨g0, hg0⟩ : ∃ g0, w3.heap.size = g0 := ⟨_, rfl⟩
  obtain ⟨W4, hW4⟩ : ∃ W4, w3.alloc (.cells #[] 35) = W4 := ⟨_, rfl⟩
  rw [hg0, hW4] at HT0 ⊢
  clear hg0 hW4
  go_loopw [6, 7] (fun s6 s7 wr => ∃ (k gr cr : Nat), s6 = .slice (some ⟨gr, 0, none⟩) k cr ∧ s7 = .int .i64 (k : Int) ∧ k ≤ n ∧ k ≤ 30 ∧ Hid (CS1 w sb mb P V k gr cr wr)) (fun _ s7 _ => 30 - (intOf s7).toNat)
  case atStart => exact ⟨0, g0, 0, rfl, rfl, Nat.zero_le _, Nat.zero_le _, HT0⟩
  case round =>
    obtain ⟨k, gr, cr, rfl, rfl, hkn, hk30, hT⟩ := hrel
    obtain ⟨O, M, hS, hok, hML, hclk, hgr, hOg, hFl⟩ := hT.out
    clear HT0
    have HS := hidq hS
    by_cases hlt : k < n ∧ k < 30
    · obtain ⟨hl1, hl2⟩ := hlt
      have hl3 : (k : Int) < (n : Int) := by omega
      have hl4 : (k : Int) < 30 := by omega
      obtain ⟨g, off, ha, hgl, hc0, hc1, hp0, hp1⟩ := hr k hl1
      subst ha
      have hOw := hidq (fun w => own_any (P k) (V k) w)
      have hTo := hidq (fun w => told_any (P k) (V k) w hp0 hp1)
      have hio : InOrder (rsrt P V k) := rsrt_order P V k
      obtain ⟨M1, HM1, HAl⟩ : ∃ M1 : Mem, Hid (MOk M1 ∧ (M1.cell 0).L = kit (rsrt P V (k + 1)) ∧ M1.clock ≤ k + 1) ∧ Hid (∀ w (O : Nat → Prop), MemAt w mb O M → Calls Try.prog 50 #[.iface 114 (.agg #[.int .i64 1]), .pointer (some ⟨mb, 0, none⟩), .agg #[.int .i64 1, .float .f64 (nf (P k)), .int .i64 (V k), .int .i64 0, .int .i64 0], .int .i64 2] w fun e w' =>
            e = .returned (.tuple #[.agg #[.bool true, .float .f64 (cbits (nf (P k))), .int .i64 (V k), .int .i64 0], .bool true]) ∧ ∃ O', MemAt w' mb O' M1 ∧ Grown O w w' O' ∧ But O w w') := by
        have hlen : (M.cell 0).L.length = k := by rw [hML, kit_length, rsrt_length]
        refine ⟨_, hidq ⟨?_, ?_, ?_⟩, hidq (fun w O hM => insert_any 1 (by decide) mb O M (nf (P k)) (V k) 0 0 2 0 (by decide) w hM hok (by unfold nf; omega) (by omega) (by decide) (by omega))⟩
        · intro i
          show KOk 62 (if i = 0 then (⟨_, 0, mWith (M.cell 0).L (nf (P k)) (V k)⟩ : CV) else M.cell i).L
          split
          · exact mWith_ok (hok 0) (by omega)
          · exact hok i
        · show mWith (M.cell 0).L (nf (P k)) (V k) = _
          rw [hML, mWith_wth hio, rsrt_succ]; rfl
        · show M.clock + 1 ≤ k + 1
          omega
      obtain ⟨A, hA⟩ : ∃ A : Ans, A = ⟨true, cbits (nf (P k)), V k, 0⟩ := ⟨_, rfl⟩
      have HAl2 : Hid (∀ w (O : Nat → Prop), MemAt w mb O M → Calls Try.prog 50 #[.iface 114 (.agg #[.int .i64 1]), .pointer (some ⟨mb, 0, none⟩), .agg #[.int .i64 1, .float .f64 (nf (P k)), .int .i64 (V k), .int .i64 0, .int .i64 0], .int .i64 2] w fun e w' =>
            e = .returned (.tuple #[.agg #[.bool A.ok, .float .f64 A.pri, .int .i64 A.val, .int .i64 A.n], .bool true]) ∧ ∃ O', MemAt w' mb O' M1 ∧ Grown O w w' O' ∧ But O w w') := by rw [hA]; exact HAl
      clear HAl
      have HAl := HAl2
      clear HAl2
      have hAok : A.ok = true := by rw [hA]
      have FC := hidq (fun W (hW : Below w.heap.size w W) => And.intro ((hW.cell (p := ⟨g, off + k * 2, none⟩) hgl).trans hc0) ((hW.cell (p := ⟨g, off + k * 2 + 1, none⟩) hgl).trans hc1))
      have HFl := hidq (And.intro hFl (And.intro hOg hgr))
      clear hFl hML hclk hok hS hA hOg hc0 hc1
      go_wp2_with fail
      refine Reg.wp_region_ghost (Reg.gofList (sorted9R mb g off n cap k P V A)) Ar.Pres (Ar.GI w wr O sb [.int .i64 1] mb M M1 A 9 13 14) (O, none) (by kernel_rfl) (by kernel_rfl) (Reg.GAllKept.at _ (sorted9R_kept mb g off n cap k P V A)) (Ar.GI.start HS.out _) ⟨?_, ?_, ?_, ?_, ?_, ?_, ?_, ?_, ?_, ?_, ?_, ?_, ?_, ?_, ?_, ?_, trivial⟩ ?_
      · refine Reg.GStepAt.plain (i := 0) rfl ?_
        intro x L ev w hI hk hp hA
        have e3 : ev (.tmp 3) = .pointer (some ⟨sb, 0, none⟩) := hA.oldNone 3 (by kernel_rfl)
        have hcc := hA.const
        clear hA hp
        have f0 := (hI.st.box.get 0 _ rfl).1
        obtain ⟨f1, f2⟩ := FC.out w hI.st.low
        refine Reg.out_value (v := .agg #[.int .i64 1]) ?_ ⟨x, rfl, Ar.Pres.refl _ _ _, hI.quiet 0 (by decide) (by decide) (by decide)⟩
        go_simp
      · refine Reg.GStepAt.plain (i := 1) rfl ?_
        intro x L ev w hI hk hp hA
        have e36 : ev (.tmp 36) = .agg #[.int .i64 1] := hA.val 0 _ 36 rfl (hp ⟨0, .data⟩ (by simp) rfl) rfl
        have hcc := hA.const
        clear hA hp
        refine Reg.out_value (v := .iface 114 (.agg #[.int .i64 1])) ?_ ⟨x, rfl, Ar.Pres.refl _ _ _, hI.quiet 1 (by decide) (by decide) (by decide)⟩
        go_simp
      · refine Reg.GStepAt.plain (i := 2) rfl ?_
        intro x L ev w hI hk hp hA
        have e5 : ev (.tmp 5) = .pointer (some ⟨mb, 0, none⟩) := hA.oldNone 5 (by kernel_rfl)
        have hcc := hA.const
        clear hA hp
        refine Reg.out_value (v := .pointer (some ⟨mb, 0, none⟩)) ?_ ⟨x, rfl, Ar.Pres.refl _ _ _, hI.quiet 2 (by decide) (by decide) (by decide)⟩
        go_simp
      · refine Reg.GStepAt.plain (i := 3) rfl ?_
        intro x L ev w hI hk hp hA
        have e0 : ev (.tmp 0) = .slice (some ⟨g, off, none⟩) n cap := hA.oldNone 0 (by kernel_rfl)
        have hcc := hA.const
        clear hA hp
        refine Reg.out_value (v := .slice (some ⟨g, off, none⟩) n cap) ?_ ⟨x, rfl, Ar.Pres.refl _ _ _, hI.quiet 3 (by decide) (by decide) (by decide)⟩
        go_simp
      · refine Reg.GStepAt.plain (i := 4) rfl ?_
        intro x L ev w hI hk hp hA
        have e7 : ev (.tmp 7) = .int .i64 (k : Int) := hA.oldNone 7 (by kernel_rfl)
        have hcc := hA.const
        clear hA hp
        refine Reg.out_value (v := .int .i64 (k : Int)) ?_ ⟨x, rfl, Ar.Pres.refl _ _ _, hI.quiet 4 (by decide) (by decide) (by decide)⟩
        go_simp
      · refine Reg.GStepAt.plain (i := 5) rfl ?_
        intro x L ev w hI hk hp hA
        have e39 : ev (.tmp 39) = .slice (some ⟨g, off, none⟩) n cap := hA.val 3 _ 39 rfl (hp ⟨3, .data⟩ (by simp) rfl) rfl
        have e40 : ev (.tmp 40) = .int .i64 (k : Int) := hA.val 4 _ 40 rfl (hp ⟨4, .data⟩ (by simp) rfl) rfl
        have hcc := hA.const
        clear hA hp
        refine Reg.out_value (v := .pointer (some ⟨g, off + k * 2, none⟩)) ?_ ⟨x, rfl, Ar.Pres.refl _ _ _, hI.quiet 5 (by decide) (by decide) (by decide)⟩
        go_simp
      · refine Reg.GStepAt.plain (i := 6) rfl ?_
        intro x L ev w hI hk hp hA
        have e41 : ev (.tmp 41) = .pointer (some ⟨g, off + k * 2, none⟩) := hA.val 5 _ 41 rfl (hp ⟨5, .data⟩ (by simp) rfl) rfl
        have hcc := hA.const
        clear hA hp
        have f0 := (hI.st.box.get 0 _ rfl).1
        obtain ⟨f1, f2⟩ := FC.out w hI.st.low
        refine Reg.out_value (v := .agg #[.int .u64 (P k), .int .i64 (V k)]) ?_ ⟨x, rfl, Ar.Pres.refl _ _ _, hI.quiet 6 (by decide) (by decide) (by decide)⟩
        go_simp
      · refine Reg.GStepAt.plain (i := 7) rfl ?_
        intro x L ev w hI hk hp hA
        have e42 : ev (.tmp 42) = .agg #[.int .u64 (P k), .int .i64 (V k)] := hA.val 6 _ 42 rfl (hp ⟨6, .data⟩ (by simp) rfl) rfl
        have hcc := hA.const
        have hcf := hA.func
        clear hA hp
        refine Reg.out_call (f := 17) (args := #[.agg #[.int .u64 (P k), .int .i64 (V k)]]) (w0 := w) ?_ ?_
        · go_simp
        refine (hOw.out w).mono ?_
        rintro e w' ⟨rfl, hb'⟩
        exact ⟨_, rfl, x, rfl, Ar.Pres.refl _ _ _, (hI.below hb').quiet 7 (by decide) (by decide) (by decide)⟩
      · refine Reg.GStepAt.plain (i := 8) rfl ?_
        intro x L ev w hI hk hp hA
        have e43 : ev (.tmp 43) = .agg #[.float .f64 (nf (P k)), .int .i64 (V k)] := hA.val 7 _ 43 rfl (hp ⟨7, .data⟩ (by simp) rfl) rfl
        have hcc := hA.const
        clear hA hp
        refine Reg.out_value (v := .agg #[.int .i64 1, .float .f64 (nf (P k)), .int .i64 (V k), .int .i64 0, .int .i64 0]) ?_ ⟨x, rfl, Ar.Pres.refl _ _ _, hI.quiet 8 (by decide) (by decide) (by decide)⟩
        go_simp
      · refine Reg.GStepAt.plain (i := 9) rfl ?_
        intro x L ev w hI hk hp hA
        have e37 : ev (.tmp 37) = .iface 114 (.agg #[.int .i64 1]) := hA.val 1 _ 37 rfl (hp ⟨1, .data⟩ (by simp) rfl) rfl
        have e38 : ev (.tmp 38) = .pointer (some ⟨mb, 0, none⟩) := hA.val 2 _ 38 rfl (hp ⟨2, .data⟩ (by simp) rfl) rfl
        have e44 : ev (.tmp 44) = .agg #[.int .i64 1, .float .f64 (nf (P k)), .int .i64 (V k), .int .i64 0, .int .i64 0] := hA.val 8 _ 44 rfl (hp ⟨8, .data⟩ (by simp) rfl) rfl
        have hcc := hA.const
        have hcf := hA.func
        clear hA hp
        refine Reg.out_call (f := 50) (args := #[.iface 114 (.agg #[.int .i64 1]), .pointer (some ⟨mb, 0, none⟩), .agg #[.int .i64 1, .float .f64 (nf (P k)), .int .i64 (V k), .int .i64 0, .int .i64 0], .int .i64 2]) (w0 := w) ?_ ?_
        · go_simp
        refine (HAl.out w x.1 (hI.mem0 hk)).mono ?_
        rintro e w' ⟨rfl, O', h1, h2, h3⟩
        exact ⟨_, rfl, (O', x.2), rfl, fun _ h => h, hI.call hk (by decide) (by decide) h1 h2 h3⟩
      · refine Reg.GStepAt.plain (i := 10) rfl ?_
        intro x L ev w hI hk hp hA
        have e45 : ev (.tmp 45) = .tuple #[.agg #[.bool A.ok, .float .f64 A.pri, .int .i64 A.val, .int .i64 A.n], .bool true] := hA.val 9 _ 45 rfl (hp ⟨9, .data⟩ (by simp) rfl) rfl
        have hcc := hA.const
        clear hA hp
        refine Reg.out_value (v := .tuple #[.agg #[.bool A.ok, .float .f64 A.pri, .int .i64 A.val, .int .i64 A.n], .bool true]) ?_ ⟨x, rfl, Ar.Pres.refl _ _ _, hI.quiet 10 (by decide) (by decide) (by decide)⟩
        go_simp
      · refine Reg.GStepAt.plain (i := 11) rfl ?_
        intro x L ev w hI hk hp hA
        have e35 : ev (.tmp 35) = .tuple #[.agg #[.bool A.ok, .float .f64 A.pri, .int .i64 A.val, .int .i64 A.n], .bool true] := hA.val 10 _ 35 rfl (hp ⟨10, .data⟩ (by simp) rfl) rfl
        have hcc := hA.const
        clear hA hp
        refine Reg.out_value (v := .agg #[.bool A.ok, .float .f64 A.pri, .int .i64 A.val, .int .i64 A.n]) ?_ ⟨x, rfl, Ar.Pres.refl _ _ _, hI.quiet 11 (by decide) (by decide) (by decide)⟩
        go_simp
      · refine Reg.GStepAt.plain (i := 12) rfl ?_
        intro x L ev w hI hk hp hA
        have e35 : ev (.tmp 35) = .tuple #[.agg #[.bool A.ok, .float .f64 A.pri, .int .i64 A.val, .int .i64 A.n], .bool true] := hA.val 10 _ 35 rfl (hp ⟨10, .data⟩ (by simp) rfl) rfl
        have hcc := hA.const
        clear hA hp
        refine Reg.out_value (v := .bool true) ?_ ⟨x, rfl, Ar.Pres.refl _ _ _, hI.quiet 12 (by decide) (by decide) (by decide)⟩
        go_simp
      · refine Reg.GStepAt.plain (i := 13) rfl ?_
        intro x L ev w hI hk hp hA
        have hcc := hA.const
        have hSf : L.getD 14 false = false := by
          cases hq : L.getD 14 false with
          | false => rfl
          | true => have := hA.closed 14 _ rfl hq ⟨13, .data⟩ (by simp) rfl; rw [show (⟨13, .data⟩ : Edge).on = 13 from rfl, Ar.getD_false hk] at this; cases this
        clear hA hp
        refine Reg.out_new (v := .pointer (some ⟨w.heap.size, 0, none⟩)) (w' := w.alloc (.cells Ans.zero.l.toArray 98)) ?_ ⟨(x.1, some w.heap.size), ⟨_, rfl, rfl⟩, fun b hb => (by rw [hI.no (Ar.getD_false hk)] at hb; cases hb), hI.alloc hk hSf (by decide) (by decide) _⟩
        (go_simp; try rfl)
      · refine Reg.GStepAt.plain (i := 14) rfl ?_
        intro x L ev w hI hk hp hA
        have e8 : ∃ bx, x.2 = some bx ∧ ev (.tmp 8) = .pointer (some ⟨bx, 0, none⟩) := hA.val 13 _ 8 rfl (hp ⟨13, .data⟩ (by simp) rfl) rfl
        have e46 : ev (.tmp 46) = .agg #[.bool A.ok, .float .f64 A.pri, .int .i64 A.val, .int .i64 A.n] := hA.val 11 _ 46 rfl (hp ⟨11, .data⟩ (by simp) rfl) rfl
        have hcc := hA.const
        clear hA hp
        obtain ⟨bx, hx, e8⟩ := e8
        have hbx := (hI.box bx hx).2.2.2.2
        rw [Ar.getD_false hk] at hbx
        obtain ⟨g0, x0⟩ := hbx.get 0 _ rfl
        obtain ⟨g1, x1⟩ := hbx.get 1 _ rfl
        obtain ⟨g2, x2⟩ := hbx.get 2 _ rfl
        obtain ⟨g3, x3⟩ := hbx.get 3 _ rfl
        refine Ar.out_skip (w' := setBox w bx A.s) ?_ ⟨x, trivial, Ar.Pres.refl _ _ _, hI.store hk (by decide) (by decide) hx⟩
        clear hbx
        simp only [setBox]
        go_simp
      · refine Reg.GStepAt.plain (i := 15) rfl ?_
        intro x L ev w hI hk hp hA
        have e47 : ev (.tmp 47) = .bool true := hA.val 12 _ 47 rfl (hp ⟨12, .data⟩ (by simp) rfl) rfl
        have hcc := hA.const
        clear hA hp
        refine Reg.out_value (v := .bool true) ?_ ⟨x, rfl, Ar.Pres.refl _ _ _, hI.quiet 15 (by decide) (by decide) (by decide)⟩
        go_simp
      intro x L act wz hall hI hF
      have q36 : act.eval (.tmp 36) = .agg #[.int .i64 1] := hF.val 0 _ 36 rfl (hall 0 (by simp)) rfl
      have q37 : act.eval (.tmp 37) = .iface 114 (.agg #[.int .i64 1]) := hF.val 1 _ 37 rfl (hall 1 (by simp)) rfl
      have q38 : act.eval (.tmp 38) = .pointer (some ⟨mb, 0, none⟩) := hF.val 2 _ 38 rfl (hall 2 (by simp)) rfl
      have q39 : act.eval (.tmp 39) = .slice (some ⟨g, off, none⟩) n cap := hF.val 3 _ 39 rfl (hall 3 (by simp)) rfl
      have q40 : act.eval (.tmp 40) = .int .i64 (k : Int) := hF.val 4 _ 40 rfl (hall 4 (by simp)) rfl
      have q41 : act.eval (.tmp 41) = .pointer (some ⟨g, off + k * 2, none⟩) := hF.val 5 _ 41 rfl (hall 5 (by simp)) rfl
      have q42 : act.eval (.tmp 42) = .agg #[.int .u64 (P k), .int .i64 (V k)] := hF.val 6 _ 42 rfl (hall 6 (by simp)) rfl
      have q43 : act.eval (.tmp 43) = .agg #[.float .f64 (nf (P k)), .int .i64 (V k)] := hF.val 7 _ 43 rfl (hall 7 (by simp)) rfl
      have q44 : act.eval (.tmp 44) = .agg #[.int .i64 1, .float .f64 (nf (P k)), .int .i64 (V k), .int .i64 0, .int .i64 0] := hF.val 8 _ 44 rfl (hall 8 (by simp)) rfl
      have q45 : act.eval (.tmp 45) = .tuple #[.agg #[.bool A.ok, .float .f64 A.pri, .int .i64 A.val, .int .i64 A.n], .bool true] := hF.val 9 _ 45 rfl (hall 9 (by simp)) rfl
      have q35 : act.eval (.tmp 35) = .tuple #[.agg #[.bool A.ok, .float .f64 A.pri, .int .i64 A.val, .int .i64 A.n], .bool true] := hF.val 10 _ 35 rfl (hall 10 (by simp)) rfl
      have q46 : act.eval (.tmp 46) = .agg #[.bool A.ok, .float .f64 A.pri, .int .i64 A.val, .int .i64 A.n] := hF.val 11 _ 46 rfl (hall 11 (by simp)) rfl
      have q47 : act.eval (.tmp 47) = .bool true := hF.val 12 _ 47 rfl (hall 12 (by simp)) rfl
      have q8 : ∃ bx, x.2 = some bx ∧ act.eval (.tmp 8) = .pointer (some ⟨bx, 0, none⟩) := hF.val 13 _ 8 rfl (hall 13 (by simp)) rfl
      obtain ⟨bx, hx, q8⟩ := q8
      have q9 : act.eval (.tmp 9) = .bool true := hF.val 15 _ 9 rfl (hall 15 (by simp)) rfl
      have hact := hF.act [36, 37, 38, 39, 40, 41, 42, 43, 44, 45, 35, 46, 47, 8, 9] (by kernel_rfl)
      have hst := hI.st
      rw [hall 9 (by simp), if_pos rfl] at hst
      have hchg := hI.chg
      have hgrw := hI.grow
      obtain ⟨hx0, hx1, hx2, hx3, hbx⟩ := hI.box bx hx
      rw [hall 14 (by simp), if_pos rfl] at hbx
      clear hF hall hI
      simp only [List.foldl_cons, List.foldl_nil] at hact
      rw [q36, q37, q38, q39, q40, q41, q42, q43, q44, q45, q35, q46, q47, q8, q9] at hact
      clear q36 q37 q38 q39 q40 q41 q42 q43 q44 q45 q35 q46 q47 q8 q9
      simp only [List.setIfInBounds_toArray, List.set_cons_succ, List.set_cons_zero] at hact
      subst hact
      have g0 := (hbx.get 0 _ rfl).1
      rw [hAok] at g0
      have hFz := HFl.out.1.but hchg HFl.out.2.1
      have hgz : ¬ x.1 gr := fun e => by
        rcases hgrw _ e with q | q
        · exact HFl.out.2.1 q
        · have := HFl.out.1.lt; omega
      obtain ⟨f1, f2⟩ := FC.out wz hst.low
      have HW := hidq (fun W (hW : Below wz.heap.size wz W) => (show Calls Try.prog 18 #[.slice (some ⟨gr, 0, none⟩) k cr, .agg #[.int .u64 (ni (cbits (nf (P k)))), .int .i64 (V k)]] W fun e w' => ∃ g' c', e = .returned (.slice (some ⟨g', 0, none⟩) (k + 1) c') ∧ W.heap.size ≤ g' ∧ Flat 2 w' g' c' (k + 1) (flatR (rsrt P V (k + 1))) ∧ Below W.heap.size W w' from by
        have q := with_any gr cr (rsrt P V k) (kiOf P V k) W (by rw [rsrt_length]; exact hFz.but (S := fun _ => False) (But.of_below hW) id) (by rw [rsrt_length]; omega)
        rw [rsrt_length, ← rsrt_succ] at q
        rw [show (kiOf P V k).b = cbits (nf (P k)) from mkKI_b (by unfold nf; omega) _, show (kiOf P V k).v = V k from mkKI_v (by unfold nf; omega) _] at q
        exact q))
      have FIN := hidq (fun W (hW : Below wz.heap.size wz W) g' c' (hg : wz.heap.size ≤ g') (hF : Flat 2 W g' c' (k + 1) (flatR (rsrt P V (k + 1)))) => (show CS1 w sb mb P V (k + 1) g' c' W from
        ⟨_, _, hst.below hW, HM1.out.1, HM1.out.2.1, HM1.out.2.2, by have := hst.low.size; omega, fun e => by have := hst.mem.lt _ e; omega, hF⟩))
      clear hst hchg hgrw hx0 hx1 hx2 hx3 hbx HM1 HAl HS FC hT HFl hFz hgz
      go_wp2_with fail
      refine (hTo.out _).mono ?_
      rintro e w5 ⟨rfl, hb5⟩
      have HB5 := hidq hb5
      clear hb5 f1 f2 hTo
      go_wp2_with fail
      refine (HW.out w5 HB5.out).mono ?_
      rintro e w6 ⟨g6, c6, rfl, hg6, hF6, hb6⟩
      have HZ := hidq (FIN.out w6 (HB5.out.trans (hb6.mono HB5.out.size)) g6 c6 (by have := HB5.out.size; omega) hF6)
      clear hF6 hb6 HB5 HW FIN hg6
      go_wp2
      go_roundw
      case rel => exact ⟨k + 1, g6, c6, rfl, by go_num, by omega, by omega, HZ⟩
      case measure => simp [intOf]; omega
    · have HT1 := hidq (show CS2 w sb mb (rsrt P V k) k gr cr 0 wr.heap.size 0 (wr.alloc (.cells #[] 29)) from by
        have hF0 : Flat 2 (wr.alloc (.cells #[] 29)) wr.heap.size 0 0 [] := Flat.new wr [] 29 2 0 rfl (Nat.zero_le _) (fun _ h => (by cases h))
        refine ⟨O, M, hS.alloc _, hok, by rw [List.drop_zero]; exact hML, by omega, hS.low.size, fun e => by have := hS.mem.lt _ e; omega, by have := hFl.lt; omega, by have := hS.box.lt; omega, by rw [Nat.zero_min]; exact hF0, hOg, hFl.but (S := fun _ => False) ((But.refl _ _).alloc _) id⟩)
      have hnd : ¬ ((k : Int) < (n : Int)) ∨ ((k : Int) < (n : Int) ∧ ¬ ((k : Int) < 30)) := by omega
      clear hS HS hok hML hclk hgr hOg hFl hT
      rcases hnd with h | ⟨h, h'⟩
      · have hd1 : decide ((k : Int) < (n : Int)) = false := decide_eq_false h
        have hd2 : decide (k < n) = false := decide_eq_false (by omega)
        clear hlt h
        go_wp2_with fail
        obtain ⟨gg, hgg⟩ : ∃ gg, wr.heap.size = gg := ⟨_, rfl⟩
        obtain ⟨W5, hW5⟩ : ∃ W5, wr.alloc (.cells #[] 29) = W5 := ⟨_, rfl⟩
        have HT2 : Hid (CS2 w sb mb (rsrt P V k) k gr cr 0 gg 0 W5) := by rw [← hgg, ← hW5]; exact HT1
        rw [hgg, hW5]
        clear HT1 hgg hW5
        go_loopw [10, 63] (fun s10 s63 wr => ∃ (j gg cg : Nat), s10 = .slice (some ⟨gg, 0, none⟩) (min j k) cg ∧ s63 = .int .i64 (j : Int) ∧ j ≤ 31 ∧ Hid (CS2 w sb mb (rsrt P V k) k gr cr j gg cg wr)) (fun _ s63 _ => 31 - (intOf s63).toNat)
        case atStart => exact ⟨0, gg, 0, by rw [Nat.zero_min], rfl, Nat.zero_le _, HT2⟩
        case round =>
          clear HT2
          obtain ⟨w6, hw6⟩ : ∃ w6, w6 = wr := ⟨_, rfl⟩
          subst hw6
          obtain ⟨j, gg, cg, rfl, rfl, hj31, hT2⟩ := hrel
          obtain ⟨O2, M2, hS2, hok2, hML2, hclk2, hgg, hOgg, hgne, hgsb, hFg, hOgr, hFr⟩ := hT2.out
          have hKl : (rsrt P V k).length = k := rsrt_length P V k
          have hKo : InOrder (rsrt P V k) := rsrt_order P V k
          generalize rsrt P V k = K at *
          have r2 := (hS2.box.get 0 _ rfl).1
          have HS2 := hidq hS2
          by_cases hj : j < 31
          · have hj2 : (j : Int) < 31 := by omega
            by_cases hjk : j < k
            · have hjl : j < K.length := by omega
              have hdr : K.drop j = K[j] :: K.drop (j + 1) := List.drop_eq_getElem_cons hjl
              have htk : K.take (j + 1) = K.take j ++ [K[j]] := List.take_succ_eq_append_getElem hjl
              have hD := hidq (delete_any 1 (by decide) mb O2 M2 0 0 0 0 3 0 0 K[j] (K.drop (j + 1)) 0 (by decide) (by decide) _ hS2.mem hok2 (.inl ⟨by rw [hML2, kis_kit, hdr]; exact mAhead_self _ _, by rw [hML2, kis_kit, hdr], rfl⟩) (by decide) (by omega))
              have hmin : min j k = j := by omega
              have hmin1 : min (j + 1) k = j + 1 := by omega
              rw [hmin] at hFg ⊢
              have HH := hidq (And.intro hFg (And.intro hFr (And.intro hOgg (And.intro hOgr (And.intro hok2 (And.intro hML2 (And.intro hclk2 (And.intro hdr htk))))))))
              have HMN := hidq (And.intro hmin hmin1)
              clear hFg hFr hOgg hOgr hok2 hML2 hclk2 hdr htk hS2 hmin hmin1
              generalize K[j] = x at *
              go_wp2_with fail
              refine hD.out.mono ?_
              rintro e w7 ⟨rfl, O7, hM7, hG7, hB7⟩
              obtain ⟨hFg, hFr, hOgg, hOgr, hok2, hML2, hclk2, hdr, htk⟩ := HH.out
              have hS7 := HS2.out.call hM7 hG7 hB7
              have hn7 : ∀ q, q < w6.heap.size → ¬ O2 q → ¬ O7 q := fun q hq hn e => by
                rcases hG7 q e with z | z
                · exact hn z
                · omega
              have hFg7 := hFg.but hB7 hOgg
              have hFr7 := hFr.but hB7 hOgr
              obtain ⟨ab, hab⟩ : ∃ ab, w7.heap.size = ab := ⟨_, rfl⟩
              obtain ⟨W8, hW8⟩ : ∃ W8, w7.alloc (.cells #[.bool true, .float .f64 x.b, .int .i64 x.v, .int .i64 0] 98) = W8 := ⟨_, rfl⟩
              have hb78 : Below w7.heap.size w7 W8 := by rw [← hW8]; exact (Below.refl _ _).alloc (Nat.le_refl _) _
              have hX8 : BoxAt W8 ab [.bool true, .float .f64 x.b, .int .i64 x.v, .int .i64 0] := by
                have q := BoxAt.new w7 [.bool true, .float .f64 x.b, .int .i64 x.v, .int .i64 0] 98
                rw [hab] at q; rw [← hW8]; exact q
              obtain ⟨eb, heb⟩ : ∃ eb, W8.heap.size = eb := ⟨_, rfl⟩
              obtain ⟨W9, hW9⟩ : ∃ W9, W8.alloc (.cells #[.float .f64 x.b, .int .i64 x.v] 29) = W9 := ⟨_, rfl⟩
              have hb89 : Below W8.heap.size W8 W9 := by rw [← hW9]; exact (Below.refl _ _).alloc (Nat.le_refl _) _
              have hE9 : BoxAt W9 eb [.float .f64 x.b, .int .i64 x.v] := by
                have q := BoxAt.new W8 [.float .f64 x.b, .int .i64 x.v] 29
                rw [heb] at q; rw [← hW9]; exact q
              have hb79 : Below w7.heap.size w7 W9 := hb78.trans (hb89.mono hb78.size)
              have hFg9 := hFg7.but (S := fun _ => False) (But.of_below hb79) id
              have hSrc : Src Try.prog 2 25 (.slice (some ⟨eb, 0, none⟩) 1 1) 1 (encI (x.b, x.v)) W9 := src_new 2 W9 Try.underlying25 eb _ rfl (fun i u hu => hE9.cell i u hu) (flatI_one [(x.b, x.v)])
              have HAP := hidq (And.intro hFg9 hSrc)
              have FIN := hidq (fun g' c' W (hF : Flat 2 W g' c' (j + 1) (flatI (kit (K.take j)) ++ encI (x.b, x.v))) (hB : But (fun q => q = gg) W9 W) (hg : g' = gg ∨ W9.heap.size ≤ g') => (show CS2 w sb mb K k gr cr (j + 1) g' c' W from by
                have s6 := hB7.size
                have s7 := hb79.size
                have sF := hFg.lt
                have sR := hFr.lt
                have hgO : ¬ O7 gg := hn7 _ sF hOgg
                refine ⟨O7, _, (hS7.below hb79).but hB (fun q hq e => hgO (e ▸ hq)) (fun e => hgsb e.symm) (fun q e => by omega), ?_, ?_, ?_, ?_, ?_, ?_, ?_, ?_, hn7 _ sR hOgr, (hFr7.but (S := fun _ => False) (But.of_below hb79) id).but hB (fun e => hgne e.symm)⟩
                · intro i
                  show KOk 62 (if i = 0 then (⟨_, 0, kit (K.drop (j + 1))⟩ : CV) else M2.cell i).L
                  split
                  · exact ⟨_, rfl, hKo.sublist (List.drop_sublist _ _), by rw [List.length_drop]; omega⟩
                  · exact hok2 i
                · rfl
                · show M2.clock + 1 ≤ k + (j + 1); omega
                · have := HS2.out.low.size; omega
                · rcases hg with rfl | hg
                  · exact hgO
                  · intro e; have := hS7.mem.lt _ e; omega
                · rcases hg with rfl | hg
                  · exact hgne
                  · omega
                · rcases hg with rfl | hg
                  · exact hgsb
                  · have := hS7.box.lt; omega
                · rw [HMN.out.2, htk]
                  have : flatI (kit (K.take j ++ [x])) = flatI (kit (K.take j)) ++ encI (x.b, x.v) := by
                    unfold kit; rw [List.map_append, flatI_append]; rfl
                  rw [this]; exact hF))
              have hjs : j + 1 ≤ 31 := by omega
              clear hFg hFr hOgg hOgr hok2 hML2 hclk2 hdr htk hS7 hn7 hFg7 hFr7 hb78 hX8 hb89 hE9 hb79 hFg9 hSrc hM7 hG7 hB7 HH hD HS2 hT2 hKo
              have e1 : eb = w7.heap.size + 1 := by rw [← heb, ← hW8]; simp
              subst hab
              subst hW9
              subst hW8
              clear heb
              subst e1
              go_wp2_with (at_builtin; refine wpList_flat plainI _ rfl (.tmp 77) (.tmp 80) rfl gg cg j (flatI (kit (K.take j))) rfl HAP.out.1 _ rfl 1 (encI (x.b, x.v)) HAP.out.2 (by omega) ?_; intro g9 c9 w9 hF9 hB9 hg9)
              have HZ := hidq (FIN.out g9 c9 w9 hF9 hB9 hg9)
              clear hF9 hB9 hg9 FIN HAP
              go_wp2
              go_roundw
              case rel => exact ⟨j + 1, g9, c9, by rw [HMN.out.2], by go_num, hjs, HZ⟩
              case measure => simp [intOf]; omega
            · have hdr : K.drop j = [] := List.drop_eq_nil_of_le (by omega)
              have hdr1 : K.drop (j + 1) = [] := List.drop_eq_nil_of_le (by omega)
              have htk : K.take (j + 1) = K.take j := by rw [List.take_of_length_le (by omega), List.take_of_length_le (by omega)]
              have hD := hidq (deleteNone_any 1 (by decide) mb O2 M2 0 0 0 0 3 0 0 (by decide) (by decide) _ hS2.mem hok2 (by rw [hML2, kis_kit, hdr]; rfl) (by decide) (by omega))
              have hmin : min (j + 1) k = min j k := by omega
              have HH := hidq (And.intro hFg (And.intro hFr (And.intro hOgg (And.intro hOgr (And.intro hok2 (And.intro hML2 (And.intro hclk2 (And.intro hdr (And.intro hdr1 htk)))))))))
              have HMN := hidq hmin
              clear hFg hFr hOgg hOgr hok2 hML2 hclk2 hdr hdr1 htk hS2 hmin
              generalize min j k = mj at *
              go_wp2_with fail
              refine hD.out.mono ?_
              rintro e w7 ⟨rfl, O7, hM7, hG7, hB7⟩
              obtain ⟨hFg, hFr, hOgg, hOgr, hok2, hML2, hclk2, hdr, hdr1, htk⟩ := HH.out
              have hS7 := (HS2.out.call hM7 hG7 hB7).alloc (.cells #[.bool false, .float .f64 0, .int .i64 0, .int .i64 0] 98)
              have hn7 : ∀ q, q < w6.heap.size → ¬ O2 q → ¬ O7 q := fun q hq hn e => by
                rcases hG7 q e with z | z
                · exact hn z
                · omega
              have hal : But (fun _ => False) w7 (w7.alloc (.cells #[.bool false, .float .f64 0, .int .i64 0, .int .i64 0] 98)) := (But.refl _ _).alloc _
              have HZ := hidq (show CS2 w sb mb K k gr cr (j + 1) gg cg (w7.alloc (.cells #[.bool false, .float .f64 0, .int .i64 0, .int .i64 0] 98)) from
                ⟨O7, M2, hS7, hok2, by rw [hML2, hdr, hdr1], by omega, hgg, hn7 _ hFg.lt hOgg, hgne, hgsb, by rw [HMN.out, htk]; exact (hFg.but hB7 hOgg).but hal id, hn7 _ hFr.lt hOgr, (hFr.but hB7 hOgr).but hal id⟩)
              have hjs : j + 1 ≤ 31 := by omega
              clear hFg hFr hOgg hOgr hok2 hML2 hclk2 hdr hdr1 htk hS7 hn7 hal hM7 hG7 hB7 HH hD HS2 hT2 hKo
              go_wp2
              go_roundw
              case rel => exact ⟨j + 1, gg, cg, by rw [HMN.out], by go_num, hjs, HZ⟩
              case measure => simp [intOf]; omega
          · have hje : j = 31 := by omega
            subst hje
            have hmin : min 31 k = k := by omega
            have htk : K.take 31 = K := List.take_of_length_le (by omega)
            rw [hmin, htk] at hFg
            rw [hmin]
            have hA := hidq (are_any gg cg gr cr k K w6 (flat_row (by rw [hKl]; exact hFg) (by omega)) hFr hKl)
            have HB := hidq (fun W (hW : Below w6.heap.size w6 W) => hS2.low.trans (hW.mono hS2.low.size))
            clear hS2 HS2 hok2 hML2 hclk2 hgg hOgg hgne hgsb hFg hOgr hFr hKl hKo hT2 hmin htk r2
            go_wp2_with fail
            refine hA.out.mono ?_
            rintro e w7 ⟨rfl, hb7⟩
            have HZ := hidq (HB.out _ hb7)
            clear hb7
            go_wp2
            go_ret
            exact ⟨rfl, HZ.out⟩
      · have hd1 : decide ((k : Int) < 30) = false := decide_eq_false h'
        have hd2 : decide (k < 30) = false := decide_eq_false (by omega)
        clear hlt h'
        go_wp2_with fail
        obtain ⟨gg, hgg⟩ : ∃ gg, wr.heap.size = gg := ⟨_, rfl⟩
        obtain ⟨W5, hW5⟩ : ∃ W5, wr.alloc (.cells #[] 29) = W5 := ⟨_, rfl⟩
        have HT2 : Hid (CS2 w sb mb (rsrt P V k) k gr cr 0 gg 0 W5) := by rw [← hgg, ← hW5]; exact HT1
        rw [hgg, hW5]
        clear HT1 hgg hW5
        go_loopw [10, 63] (fun s10 s63 wr => ∃ (j gg cg : Nat), s10 = .slice (some ⟨gg, 0, none⟩) (min j k) cg ∧ s63 = .int .i64 (j : Int) ∧ j ≤ 31 ∧ Hid (CS2 w sb mb (rsrt P V k) k gr cr j gg cg wr)) (fun _ s63 _ => 31 - (intOf s63).toNat)
        case atStart => exact ⟨0, gg, 0, by rw [Nat.zero_min], rfl, Nat.zero_le _, HT2⟩
        case round =>
          clear HT2
          obtain ⟨w6, hw6⟩ : ∃ w6, w6 = wr := ⟨_, rfl⟩
          subst hw6
          obtain ⟨j, gg, cg, rfl, rfl, hj31, hT2⟩ := hrel
          obtain ⟨O2, M2, hS2, hok2, hML2, hclk2, hgg, hOgg, hgne, hgsb, hFg, hOgr, hFr⟩ := hT2.out
          have hKl : (rsrt P V k).length = k := rsrt_length P V k
          have hKo : InOrder (rsrt P V k) := rsrt_order P V k
          generalize rsrt P V k = K at *
          have r2 := (hS2.box.get 0 _ rfl).1
          have HS2 := hidq hS2
          by_cases hj : j < 31
          · have hj2 : (j : Int) < 31 := by omega
            by_cases hjk : j < k
            · have hjl : j < K.length := by omega
              have hdr : K.drop j = K[j] :: K.drop (j + 1) := List.drop_eq_getElem_cons hjl
              have htk : K.take (j + 1) = K.take j ++ [K[j]] := List.take_succ_eq_append_getElem hjl
              have hD := hidq (delete_any 1 (by decide) mb O2 M2 0 0 0 0 3 0 0 K[j] (K.drop (j + 1)) 0 (by decide) (by decide) _ hS2.mem hok2 (.inl ⟨by rw [hML2, kis_kit, hdr]; exact mAhead_self _ _, by rw [hML2, kis_kit, hdr], rfl⟩) (by decide) (by omega))
              have hmin : min j k = j := by omega
              have hmin1 : min (j + 1) k = j + 1 := by omega
              rw [hmin] at hFg ⊢
              have HH := hidq (And.intro hFg (And.intro hFr (And.intro hOgg (And.intro hOgr (And.intro hok2 (And.intro hML2 (And.intro hclk2 (And.intro hdr htk))))))))
              have HMN := hidq (And.intro hmin hmin1)
              clear hFg hFr hOgg hOgr hok2 hML2 hclk2 hdr htk hS2 hmin hmin1
              generalize K[j] = x at *
              go_wp2_with fail
              refine hD.out.mono ?_
              rintro e w7 ⟨rfl, O7, hM7, hG7, hB7⟩
              obtain ⟨hFg, hFr, hOgg, hOgr, hok2, hML2, hclk2, hdr, htk⟩ := HH.out
              have hS7 := HS2.out.call hM7 hG7 hB7
              have hn7 : ∀ q, q < w6.heap.size → ¬ O2 q → ¬ O7 q := fun q hq hn e => by
                rcases hG7 q e with z | z
                · exact hn z
                · omega
              have hFg7 := hFg.but hB7 hOgg
              have hFr7 := hFr.but hB7 hOgr
              obtain ⟨ab, hab⟩ : ∃ ab, w7.heap.size = ab := ⟨_, rfl⟩
              obtain ⟨W8, hW8⟩ : ∃ W8, w7.alloc (.cells #[.bool true, .float .f64 x.b, .int .i64 x.v, .int .i64 0] 98) = W8 := ⟨_, rfl⟩
              have hb78 : Below w7.heap.size w7 W8 := by rw [← hW8]; exact (Below.refl _ _).alloc (Nat.le_refl _) _
              have hX8 : BoxAt W8 ab [.bool true, .float .f64 x.b, .int .i64 x.v, .int .i64 0] := by
                have q := BoxAt.new w7 [.bool true, .float .f64 x.b, .int .i64 x.v, .int .i64 0] 98
                rw [hab] at q; rw [← hW8]; exact q
              obtain ⟨eb, heb⟩ : ∃ eb, W8.heap.size = eb := ⟨_, rfl⟩
              obtain ⟨W9, hW9⟩ : ∃ W9, W8.alloc (.cells #[.float .f64 x.b, .int .i64 x.v] 29) = W9 := ⟨_, rfl⟩
              have hb89 : Below W8.heap.size W8 W9 := by rw [← hW9]; exact (Below.refl _ _).alloc (Nat.le_refl _) _
              have hE9 : BoxAt W9 eb [.float .f64 x.b, .int .i64 x.v] := by
                have q := BoxAt.new W8 [.float .f64 x.b, .int .i64 x.v] 29
                rw [heb] at q; rw [← hW9]; exact q
              have hb79 : Below w7.heap.size w7 W9 := hb78.trans (hb89.mono hb78.size)
              have hFg9 := hFg7.but (S := fun _ => False) (But.of_below hb79) id
              have hSrc : Src Try.prog 2 25 (.slice (some ⟨eb, 0, none⟩) 1 1) 1 (encI (x.b, x.v)) W9 := src_new 2 W9 Try.underlying25 eb _ rfl (fun i u hu => hE9.cell i u hu) (flatI_one [(x.b, x.v)])
              have HAP := hidq (And.intro hFg9 hSrc)
              have FIN := hidq (fun g' c' W (hF : Flat 2 W g' c' (j + 1) (flatI (kit (K.take j)) ++ encI (x.b, x.v))) (hB : But (fun q => q = gg) W9 W) (hg : g' = gg ∨ W9.heap.size ≤ g') => (show CS2 w sb mb K k gr cr (j + 1) g' c' W from by
                have s6 := hB7.size
                have s7 := hb79.size
                have sF := hFg.lt
                have sR := hFr.lt
                have hgO : ¬ O7 gg := hn7 _ sF hOgg
                refine ⟨O7, _, (hS7.below hb79).but hB (fun q hq e => hgO (e ▸ hq)) (fun e => hgsb e.symm) (fun q e => by omega), ?_, ?_, ?_, ?_, ?_, ?_, ?_, ?_, hn7 _ sR hOgr, (hFr7.but (S := fun _ => False) (But.of_below hb79) id).but hB (fun e => hgne e.symm)⟩
                · intro i
                  show KOk 62 (if i = 0 then (⟨_, 0, kit (K.drop (j + 1))⟩ : CV) else M2.cell i).L
                  split
                  · exact ⟨_, rfl, hKo.sublist (List.drop_sublist _ _), by rw [List.length_drop]; omega⟩
                  · exact hok2 i
                · rfl
                · show M2.clock + 1 ≤ k + (j + 1); omega
                · have := HS2.out.low.size; omega
                · rcases hg with rfl | hg
                  · exact hgO
                  · intro e; have := hS7.mem.lt _ e; omega
                · rcases hg with rfl | hg
                  · exact hgne
                  · omega
                · rcases hg with rfl | hg
                  · exact hgsb
                  · have := hS7.box.lt; omega
                · rw [HMN.out.2, htk]
                  have : flatI (kit (K.take j ++ [x])) = flatI (kit (K.take j)) ++ encI (x.b, x.v) := by
                    unfold kit; rw [List.map_append, flatI_append]; rfl
                  rw [this]; exact hF))
              have hjs : j + 1 ≤ 31 := by omega
              clear hFg hFr hOgg hOgr hok2 hML2 hclk2 hdr htk hS7 hn7 hFg7 hFr7 hb78 hX8 hb89 hE9 hb79 hFg9 hSrc hM7 hG7 hB7 HH hD HS2 hT2 hKo
              have e1 : eb = w7.heap.size + 1 := by rw [← heb, ← hW8]; simp
              subst hab
              subst hW9
              subst hW8
              clear heb
              subst e1
              go_wp2_with (at_builtin; refine wpList_flat plainI _ rfl (.tmp 77) (.tmp 80) rfl gg cg j (flatI (kit (K.take j))) rfl HAP.out.1 _ rfl 1 (encI (x.b, x.v)) HAP.out.2 (by omega) ?_; intro g9 c9 w9 hF9 hB9 hg9)
              have HZ := hidq (FIN.out g9 c9 w9 hF9 hB9 hg9)
              clear hF9 hB9 hg9 FIN HAP
              go_wp2
              go_roundw
              case rel => exact ⟨j + 1, g9, c9, by rw [HMN.out.2], by go_num, hjs, HZ⟩
              case measure => simp [intOf]; omega
            · have hdr : K.drop j = [] := List.drop_eq_nil_of_le (by omega)
              have hdr1 : K.drop (j + 1) = [] := List.drop_eq_nil_of_le (by omega)
              have htk : K.take (j + 1) = K.take j := by rw [List.take_of_length_le (by omega), List.take_of_length_le (by omega)]
              have hD := hidq (deleteNone_any 1 (by decide) mb O2 M2 0 0 0 0 3 0 0 (by decide) (by decide) _ hS2.mem hok2 (by rw [hML2, kis_kit, hdr]; rfl) (by decide) (by omega))
              have hmin : min (j + 1) k = min j k := by omega
              have HH := hidq (And.intro hFg (And.intro hFr (And.intro hOgg (And.intro hOgr (And.intro hok2 (And.intro hML2 (And.intro hclk2 (And.intro hdr (And.intro hdr1 htk)))))))))
              have HMN := hidq hmin
              clear hFg hFr hOgg hOgr hok2 hML2 hclk2 hdr hdr1 htk hS2 hmin
              generalize min j k = mj at *
              go_wp2_with fail
              refine hD.out.mono ?_
              rintro e w7 ⟨rfl, O7, hM7, hG7, hB7⟩
              obtain ⟨hFg, hFr, hOgg, hOgr, hok2, hML2, hclk2, hdr, hdr1, htk⟩ := HH.out
              have hS7 := (HS2.out.call hM7 hG7 hB7).alloc (.cells #[.bool false, .float .f64 0, .int .i64 0, .int .i64 0] 98)
              have hn7 : ∀ q, q < w6.heap.size → ¬ O2 q → ¬ O7 q := fun q hq hn e => by
                rcases hG7 q e with z | z
                · exact hn z
                · omega
              have hal : But (fun _ => False) w7 (w7.alloc (.cells #[.bool false, .float .f64 0, .int .i64 0, .int .i64 0] 98)) := (But.refl _ _).alloc _
              have HZ := hidq (show CS2 w sb mb K k gr cr (j + 1) gg cg (w7.alloc (.cells #[.bool false, .float .f64 0, .int .i64 0, .int .i64 0] 98)) from
                ⟨O7, M2, hS7, hok2, by rw [hML2, hdr, hdr1], by omega, hgg, hn7 _ hFg.lt hOgg, hgne, hgsb, by rw [HMN.out, htk]; exact (hFg.but hB7 hOgg).but hal id, hn7 _ hFr.lt hOgr, (hFr.but hB7 hOgr).but hal id⟩)
              have hjs : j + 1 ≤ 31 := by omega
              clear hFg hFr hOgg hOgr hok2 hML2 hclk2 hdr hdr1 htk hS7 hn7 hal hM7 hG7 hB7 HH hD HS2 hT2 hKo
              go_wp2
              go_roundw
              case rel => exact ⟨j + 1, gg, cg, by rw [HMN.out], by go_num, hjs, HZ⟩
              case measure => simp [intOf]; omega
          · have hje : j = 31 := by omega
            subst hje
            have hmin : min 31 k = k := by omega
            have htk : K.take 31 = K := List.take_of_length_le (by omega)
            rw [hmin, htk] at hFg
            rw [hmin]
            have hA := hidq (are_any gg cg gr cr k K w6 (flat_row (by rw [hKl]; exact hFg) (by omega)) hFr hKl)
            have HB := hidq (fun W (hW : Below w6.heap.size w6 W) => hS2.low.trans (hW.mono hS2.low.size))
            clear hS2 HS2 hok2 hML2 hclk2 hgg hOgg hgne hgsb hFg hOgr hFr hKl hKo hT2 hmin htk r2
            go_wp2_with fail
            refine hA.out.mono ?_
            rintro e w7 ⟨rfl, hb7⟩
            have HZ := hidq (HB.out _ hb7)
            clear hb7
            go_wp2
            go_ret
            exact ⟨rfl, HZ.out⟩
end Go.Proofs.Ythhechgjablklaa
