/-
  Layer 9: Enqs one by one, until there is no room: the plain mathematics.
  Layer 9: a queue's step, as a machine's: contract.
  Layer 6: an operation that nobody disturbs, on one machine: contract.
  Layer 6's reference: draws, parameters: contracts.
  Layer 9: what the laws ask first: contract.
  Layer 9: a Deq that nobody disturbs: the plain mathematics.
  Layer 6's reference: the operations of a kind: contract.
  Layer 4's laws: items in the making, the document's answers: contracts.
-/
import Derived.Test.YtclcmabohpoaiaaKf9mAll
import Derived.Test.YtclcmabohpoaiaaKf9aAll
import Derived.Test.YtclcmabohpoaiaaPileIAll
namespace Go.Proofs.Ytclcmabohpoaiaa
open Go.RowKit Go.Sort

theorem fits_iff {k : Nat} (hk : 1 ≤ k) (s : Int) : kfits (k : Int) s = (decide (0 ≤ s) && decide (s < ((998 / k : Nat) : Int))) := by
  unfold kfits kslot
  by_cases h0 : 0 ≤ s
  · obtain ⟨n, rfl⟩ : ∃ n : Nat, s = (n : Int) := ⟨s.toNat, by omega⟩
    have key : n < 998 / k ↔ n * k + k ≤ 998 := by
      rw [show n * k + k = (n + 1) * k by rw [Nat.succ_mul], ← Nat.le_div_iff_mul_le (by omega)]
      omega
    have hb : 998 / k ≤ 998 := Nat.div_le_self _ _
    by_cases h1 : n < 998 / k
    · have h2 := key.1 h1
      rw [decide_eq_true h0, decide_eq_true (show (n : Int) < ((998 / k : Nat) : Int) by omega), decide_eq_true]
      · rfl
      · refine ⟨h0, by omega, ?_⟩
        rw [← Int.natCast_mul]
        omega
    · have h2 : ¬ n * k + k ≤ 998 := fun e => h1 (key.2 e)
      rw [decide_eq_true h0, decide_eq_false (show ¬ (n : Int) < ((998 / k : Nat) : Int) by omega), decide_eq_false]
      · rfl
      · rintro ⟨_, _, h3⟩
        rw [← Int.natCast_mul] at h3
        omega
  · rw [decide_eq_false h0, decide_eq_false (fun e => h0 e.1)]; rfl
theorem fits_true {k t : Nat} (hk : 1 ≤ k) : kfits (k : Int) (t : Int) = true ↔ t < 998 / k := by
  rw [fits_iff hk, Bool.and_eq_true, decide_eq_true_eq, decide_eq_true_eq]; omega
theorem fm_len {f : Nat → Option KI} : ∀ (l : List Nat), (∀ i ∈ l, (f i).isSome = true) → (l.filterMap f).length = l.length
  | [], _ => rfl
  | a :: l, h => by
    obtain ⟨x, hx⟩ := Option.isSome_iff_exists.1 (h a List.mem_cons_self)
    rw [List.filterMap_cons, hx]
    simp [fm_len l (fun i hi => h i (List.mem_cons_of_mem _ hi))]
theorem segI_full {M : Mem} {k s : Nat} (h : ∀ j, j < k → (M.cell (sl k s j)).n = 1) : (segI M k s).length = k := by
  unfold segI
  rw [fm_len _ (fun j hj => by unfold slotI; rw [if_pos (h j (List.mem_range.1 hj))]; rfl), List.length_range]
theorem segI_put {M : Mem} {k t j : Nat} {x : KI} (hj : j < k) (hz : (M.cell (sl k t j)).n = 0) : (segI (M.put (sl k t j) 1 (kit [x])) k t).Perm (segI M k t ++ [x]) := by
  refine filterMap_add hj (by unfold slotI; rw [hz]; rfl) (by unfold slotI; rw [put_same]; show some _ = _; rw [kis_kit1]) (fun i hi => ?_)
  unfold slotI
  by_cases hik : i < k
  · rw [put_other _ _ _ (fun e => hi (sl_inj hik hj e).2)]
  · unfold sl
    rw [put_other _ _ _ (by omega)]
theorem segI_le (M : Mem) (k s : Nat) : (segI M k s).length ≤ k := by
  unfold segI
  have := List.length_filterMap_le (slotI M k s) (List.range k)
  rw [List.length_range] at this
  exact this
/-- Behind so many Enqs. -/
def FI (k i : Nat) (M : Mem) : Prop := ∃ t l, QI k M 0 t l ∧ (∀ s j, j < k → (M.cell (sl k s j)).n ≠ 2) ∧ t < 998 / k ∧ i = t * k + (segI M k t).length
theorem FI.start {k : Nat} (hk : 1 ≤ k ∧ k ≤ 16) : FI k 0 Mem.empty := by
  refine ⟨0, [], QI.empty k, fun _ _ _ => (by show (0 : Int) ≠ 2; decide), ?_, ?_⟩
  · rw [Nat.lt_div_iff_mul_lt (by omega)]; omega
  · rw [segI_none (fun _ _ => by show (0 : Int) ≠ 1; decide)]; simp
/-- One more. -/
theorem FI.next {k i : Nat} {M : Mem} (d d1 : Int) (hk : 1 ≤ k ∧ k ≤ 16) (h : FI k i M) :
    (i < 998 / k * k ∧ ∃ M', alone (kStep k) 100 M (Fr.of 3 0 0 d d1) = (M', ⟨true, 0, 0, 0⟩, true) ∧ FI k (i + 1) M' ∧ KM M') ∨
    (i = 998 / k * k ∧ ∃ M', alone (kStep k) 100 M (Fr.of 3 0 0 d d1) = (M', Ans.zero, true) ∧ KM M') := by
  obtain ⟨t, l, q, h2, ht, hi⟩ := h
  have hfit := (fits_true (t := t) hk.1).2 ht
  have hmul : (t + 1) * k ≤ 998 / k * k := Nat.mul_le_mul_right k ht
  rw [Nat.succ_mul] at hmul
  have hle := segI_le M k t
  rcases enq_alone 0 0 d d1 100 hk (by decide) q (by omega) hfit with ⟨j, hj, hz, ha⟩ | ⟨hall, ⟨hfit2, j, hj, ha⟩ | ⟨hfit2, ha⟩⟩
  · left
    have hp := (segI_put (x := mkKI 0 0) hj hz).length_eq
    rw [List.length_append] at hp
    have hle2 := segI_le (M.put (sl k t j) 1 (kit [mkKI 0 0])) k t
    have hp' : (segI (M.put (sl k t j) 1 (kit [mkKI 0 0])) k t).length = (segI M k t).length + 1 := hp
    refine ⟨by omega, _, ha, ⟨t, _, q.enq (x := mkKI 0 0) hj hz, fun s u hu => ?_, ht, by omega⟩, (q.enq (x := mkKI 0 0) hj hz).km⟩
    by_cases e : sl k s u = sl k t j
    · rw [e, put_same]; show (1 : Int) ≠ 2; decide
    · rw [put_other _ _ _ e]; exact h2 s u hu
  · left
    have hone : ∀ j, j < k → (M.cell (sl k t j)).n = 1 := fun j hj => by
      rcases q.two t j hj with e | e | e
      · exact absurd e (hall j hj)
      · exact e
      · exact absurd e (h2 t j hj)
    have hlen := segI_full hone
    have ht2 := (fits_true (t := t + 1) hk.1).1 hfit2
    have q1 := q.tail hall
    have ho : ∀ s j, (M.put 1 ((t : Int) + 1) []).cell (sl k s j) = M.cell (sl k s j) := fun s j => put_other _ _ _ (by have := sl_ge k s j; omega)
    have hz1 : ∀ j, j < k → ((M.put 1 ((t : Int) + 1) []).cell (sl k (t + 1) j)).n = 0 := fun j hj => by rw [ho]; exact q.late _ j hj (by omega)
    have hp := (segI_put (x := mkKI 0 0) hj (hz1 j hj)).length_eq
    rw [List.length_append, segI_none (M := M.put 1 ((t : Int) + 1) []) (fun j hj => by rw [hz1 j hj]; decide)] at hp
    have hp' : (segI ((M.put 1 ((t : Int) + 1) []).put (sl k (t + 1) j) 1 (kit [mkKI 0 0])) k (t + 1)).length = 1 := hp
    have hmul2 : (t + 1 + 1) * k ≤ 998 / k * k := Nat.mul_le_mul_right k ht2
    rw [Nat.succ_mul, Nat.succ_mul] at hmul2
    refine ⟨by omega, _, ha, ⟨t + 1, _, q1.enq (x := mkKI 0 0) hj (hz1 j hj), fun s u hu => ?_, ht2, by rw [Nat.succ_mul]; omega⟩, (q1.enq (x := mkKI 0 0) hj (hz1 j hj)).km⟩
    by_cases e : sl k s u = sl k (t + 1) j
    · rw [e, put_same]; show (1 : Int) ≠ 2; decide
    · rw [put_other _ _ _ e, ho]; exact h2 s u hu
  · right
    have hone : ∀ j, j < k → (M.cell (sl k t j)).n = 1 := fun j hj => by
      rcases q.two t j hj with e | e | e
      · exact absurd e (hall j hj)
      · exact e
      · exact absurd e (h2 t j hj)
    have hlen := segI_full hone
    have ht2 : ¬ t + 1 < 998 / k := fun e => by rw [(fits_true (t := t + 1) hk.1).2 e] at hfit2; cases hfit2
    have he : t + 1 = 998 / k := by omega
    refine ⟨?_, _, ha, (q.tail hall).km⟩
    rw [← he, Nat.succ_mul]; omega
theorem alone_clock {G : Mem → Fr → Prop} {st : StepFn} (hf : Fine G st) : ∀ (n : Nat) (M : Mem) (F : Fr), (alone st n M F).1.clock ≤ M.clock + n
  | 0, _, _ => Nat.le_refl _
  | n + 1, M, F => by
    have h1 := hf.clock M F
    unfold alone
    split
    · show (st M F).1.clock ≤ _; omega
    · have := alone_clock hf n (st M F).1 (st M F).2.1
      omega

/-- The memory of the answers that the document fixes. -/
def awM : Nat → Mem
  | 0 => Mem.empty
  | i + 1 => (alone (kStep 2) 20 (awM i) (Fr.of 3 0 ((i : Int) + 1) 0 0)).1
theorem awM_ok : ∀ i, KM (awM i) ∧ (awM i).clock ≤ 20 * i
  | 0 => ⟨KM.empty, Nat.le_refl _⟩
  | i + 1 => by
    obtain ⟨h1, h2⟩ := awM_ok i
    refine ⟨KM.alone (by decide) 20 _ _ (kGood.start (by decide) 3 0 _ 0 0 (.inl rfl) (by decide) h1), ?_⟩
    have := alone_clock (kFine 2 (by decide)) 20 (awM i) (Fr.of 3 0 ((i : Int) + 1) 0 0)
    show (alone (kStep 2) 20 (awM i) (Fr.of 3 0 ((i : Int) + 1) 0 0)).1.clock ≤ _
    omega
theorem awM_deq : (alone (kStep 2) 20 (awM 3) (Fr.of 4 0 0 1 0)).2 = (⟨true, 0, 2, 0⟩, true) := by kernel_rfl
end Go.Proofs.Ytclcmabohpoaiaa

namespace Go.Proofs.Ytclcmabohpoaiaa
open Go.RowKit Go.Sort

set_option maxHeartbeats 2000000 in
theorem kstep_is (sh : Int) (hs : 1 ≤ sh ∧ sh ≤ 16) : IsStep 114 (.agg #[.int .i64 sh]) (kGood sh) (kStep sh) := by
  intro w b fb O P M F h hf hd hg hck
  obtain ⟨a0, k0, a1, k1, hB, _⟩ := hf.box
  have hfl := hB.lt
  have hsf := run_store_flt (P := Try.prog)
  have c0 := (hB.get 0 _ rfl).1
  obtain ⟨W1, hW1, hb0, hsz0, hR0, hA0⟩ := two_new w [.int .i64 sh] Ans.zero.l 57 48 0
  have hW2 : (w.alloc (.cells #[.int .i64 sh] 57)).alloc (.cells #[.bool false, .float .f64 0, .int .i64 0, .int .i64 0] 48) = W1 := hW1
  clear hW1
  have r0 := (hR0.get 0 _ rfl).1
  have c01 := (hb0.cell (p := ⟨fb, 0, none⟩) hfl).trans c0
  have hM1 := h.below hb0
  have hf1 := hf.below hb0
  have FIN := hidq (fun e w2 (hE : StepEnd b fb O P (kStep sh M F) W1 e w2) => stepEnd_on hb0 h.lt hf.lt hE hA0 (Nat.le_succ _))
  have GA := hidq (fun w2 (hb : But (fun k => O k ∨ P k) W1 w2) => hA0.but hb (fun e => by
    rcases e with e | e
    · have := h.lt _ e; omega
    · have := hf.lt _ e; omega))
  have hseg := hg.seg
  have hseen := hg.seen
  rcases hg.kind with hk | hk
  · have hC := hidq (show Calls Try.prog 115 #[.agg #[.int .i64 sh], .pointer (some ⟨b, 0, none⟩), .pointer (some ⟨fb, 0, none⟩)] W1 (StepEnd b fb O P (kStep sh M F) W1) from by
      unfold kStep; rw [if_pos hk]; exact kenq_any sh W1 b fb O P M F hM1 hf1 hd hs (by omega) (by omega) hck)
    rw [hk] at c0 c01
    clear h hf hd hB hb0 hR0 hA0 hM1 hf1 hk hg hseg hseen
    generalize kStep sh M F = r at *
    obtain ⟨M', F', A, d⟩ := r
    obtain ⟨aok, api, av, an⟩ := A
    go_enter Try.func114, Try.ntmps114
    go_wp2_with fail
    refine hC.out.mono ?_
    intro e w2 hE
    obtain ⟨e1, e2⟩ := FIN.out _ _ hE
    obtain ⟨rfl, _, _, _, _, _, _, _, hb2⟩ := hE
    have hA2 := GA.out _ hb2
    obtain ⟨g0, x0⟩ := hA2.get 0 _ rfl
    obtain ⟨g1, x1⟩ := hA2.get 1 _ rfl
    obtain ⟨g2, x2⟩ := hA2.get 2 _ rfl
    obtain ⟨g3, x3⟩ := hA2.get 3 _ rfl
    have E1 := hidq e1
    have E2 := hidq e2
    clear e1 e2 hA2 hb2 hC FIN GA hW2
    go_wp2
    exact ret_ans Try.results114 E1.out rfl rfl rfl E2.out
  · have hC := hidq (show Calls Try.prog 116 #[.agg #[.int .i64 sh], .pointer (some ⟨b, 0, none⟩), .pointer (some ⟨fb, 0, none⟩)] W1 (StepEnd b fb O P (kStep sh M F) W1) from by
      unfold kStep; rw [if_neg (by omega)]
      by_cases h0 : F.pc = 0
      · exact kdeq_0 sh W1 b fb O P M F hM1 hf1 hd h0
      · by_cases h1 : F.pc = 1
        · exact kdeq_1 sh W1 b fb O P M F hM1 hf1 hd h1
        · by_cases h2 : F.pc = 2
          · exact kdeq_2 sh W1 b fb O P M F hM1 hf1 hd hs (by omega) h2
          · by_cases h3 : F.pc = 3
            · obtain ⟨x, hx⟩ := hg.full hk h3
              exact kdeq_3 sh W1 b fb O P M F hM1 hf1 hd x hs (by omega) hck h3 hx
            · exact kdeq_4 sh W1 b fb O P M F hM1 hf1 hd (by omega) hck h0 h1 h2 h3)
    rw [hk] at c0 c01
    clear h hf hd hB hb0 hR0 hA0 hM1 hf1 hk hg hseg hseen
    generalize kStep sh M F = r at *
    obtain ⟨M', F', A, d⟩ := r
    obtain ⟨aok, api, av, an⟩ := A
    go_enter Try.func114, Try.ntmps114
    go_wp2_with fail
    refine hC.out.mono ?_
    intro e w2 hE
    obtain ⟨e1, e2⟩ := FIN.out _ _ hE
    obtain ⟨rfl, _, _, _, _, _, _, _, hb2⟩ := hE
    have hA2 := GA.out _ hb2
    obtain ⟨g0, x0⟩ := hA2.get 0 _ rfl
    obtain ⟨g1, x1⟩ := hA2.get 1 _ rfl
    obtain ⟨g2, x2⟩ := hA2.get 2 _ rfl
    obtain ⟨g3, x3⟩ := hA2.get 3 _ rfl
    have E1 := hidq e1
    have E2 := hidq e2
    clear e1 e2 hA2 hb2 hC FIN GA hW2
    go_wp2
    exact ret_ans Try.results114 E1.out rfl rfl rfl E2.out
end Go.Proofs.Ytclcmabohpoaiaa

namespace Go.Proofs.Ytclcmabohpoaiaa
open Go.RowKit Go.Sort

set_option maxHeartbeats 4000000 in
theorem aloneK_any (sh : Int) {G : Mem → Fr → Prop} {st : StepFn} (hst : IsStep 114 (.agg #[.int .i64 sh]) G st) (hfn : Fine G st)
    (b : Nat) (O : Nat → Prop) (M : Mem) (kind : Int) (pri : Nat) (val d0 d1 most : Int) (w : World) (h : MemAt w b O M) (hg : G M (Fr.of kind pri val d0 d1)) (hm : most ≤ 1000) (hck : M.clock < 4611686018427386000) :
    Calls Try.prog 13 #[.iface 57 (.agg #[.int .i64 sh]), .pointer (some ⟨b, 0, none⟩), .agg #[.int .i64 kind, .float .f64 pri, .int .i64 val, .int .i64 d0, .int .i64 d1], .int .i64 most] w (AEnd b O (alone st most.toNat M (Fr.of kind pri val d0 d1)) w) := by
  have hsf := run_store_flt (P := Try.prog)
  have hms : ∀ w, (method 279 57 (.agg #[.int .i64 sh]) "Step").run Try.prog w = .ok (114, (.agg #[.int .i64 sh])) w := fun w => by kernel_rfl
  go_enter Try.func13, Try.ntmps13
  go_wp2_with fail
  obtain ⟨W0, hW0, hb00, hsz00, _, hA00⟩ := two_new w [.int .i64 kind, .float .f64 pri, .int .i64 val, .int .i64 d0, .int .i64 d1] Ans.zero.l 38 48 0
  rw [show (w.alloc (.cells #[.int .i64 kind, .float .f64 pri, .int .i64 val, .int .i64 d0, .int .i64 d1] 38)).alloc (.cells #[.bool false, .float .f64 0, .int .i64 0, .int .i64 0] 48) = W0 from hW0]
  clear hW0
  obtain ⟨fb, hfb⟩ : ∃ fb, w.heap.size + 1 + 1 = fb := ⟨_, rfl⟩
  obtain ⟨ab, hab⟩ : ∃ ab, w.heap.size + 1 = ab := ⟨_, rfl⟩
  have hfr : BoxAt (W0.alloc (.cells #[.int .i64 kind, .float .f64 pri, .int .i64 val, .int .i64 d0, .int .i64 d1, .int .i64 0, .int .i64 0, .int .i64 0, .int .i64 0, .int .i64 0, .bool false, .int .u64 0, .int .i64 0, .slice none 0 0, .int .u64 0, .int .i64 0, .slice none 0 0] 85)) fb ((Fr.of kind pri val d0 d1).l none 0 none 0) := by
    have := BoxAt.new W0 ((Fr.of kind pri val d0 d1).l none 0 none 0) 85
    rw [hsz00, hfb] at this
    exact this
  have hb0 : Below w.heap.size w (W0.alloc (.cells #[.int .i64 kind, .float .f64 pri, .int .i64 val, .int .i64 d0, .int .i64 d1, .int .i64 0, .int .i64 0, .int .i64 0, .int .i64 0, .int .i64 0, .bool false, .int .u64 0, .int .i64 0, .slice none 0 0, .int .u64 0, .int .i64 0, .slice none 0 0] 85)) := hb00.alloc (by omega) _
  have hsz1 : (W0.alloc (.cells #[.int .i64 kind, .float .f64 pri, .int .i64 val, .int .i64 d0, .int .i64 d1, .int .i64 0, .int .i64 0, .int .i64 0, .int .i64 0, .int .i64 0, .bool false, .int .u64 0, .int .i64 0, .slice none 0 0, .int .u64 0, .int .i64 0, .slice none 0 0] 85)).heap.size = w.heap.size + 3 := by rw [World.size_alloc, hsz00]
  have hA0 := hA00.below ((Below.refl W0.heap.size W0).alloc (Nat.le_refl _) (.cells #[.int .i64 kind, .float .f64 pri, .int .i64 val, .int .i64 d0, .int .i64 d1, .int .i64 0, .int .i64 0, .int .i64 0, .int .i64 0, .int .i64 0, .bool false, .int .u64 0, .int .i64 0, .slice none 0 0, .int .u64 0, .int .i64 0, .slice none 0 0] 85))
  rw [hab] at hA0
  rw [hfb, hab]
  generalize W0.alloc (.cells #[.int .i64 kind, .float .f64 pri, .int .i64 val, .int .i64 d0, .int .i64 d1, .int .i64 0, .int .i64 0, .int .i64 0, .int .i64 0, .int .i64 0, .bool false, .int .u64 0, .int .i64 0, .slice none 0 0, .int .u64 0, .int .i64 0, .slice none 0 0] 85) = W1 at *
  have hM1 := h.below hb0
  have hF1 : FrAt W1 fb (fun k => k = fb) (Fr.of kind pri val d0 d1) := ⟨rfl, fun k e => by rw [e]; exact hfr.lt, none, 0, none, 0, hfr, SlAt.nil _ _, SlAt.nil _ _, (fun j hj => by obtain ⟨y, hy, _⟩ := hj; cases hy), (fun j hj => by obtain ⟨y, hy, _⟩ := hj; cases hy)⟩
  have hOf : ∀ k, O k → k < w.heap.size := h.lt
  have hLt := hidq (And.intro hfb (And.intro hab hsz1))
  have HA := hidq hA0
  have HB := hidq hb0
  have HG := hidq hg
  have HST := hidq hst
  have HFN := hidq hfn
  have HCK := hidq hck
  clear hfb hab hsz1 hA0 hb0 hb00 hsz00 hA00 hfr h hg hst hfn hck
  go_loopw [17] (fun s wr => ∃ (k : Nat) (Mk : Mem) (Fk : Fr) (Ok Pk : Nat → Prop), s = .int .i64 (k : Int) ∧ ((k : Int) ≤ most ∨ k = 0) ∧ MemAt wr b Ok Mk ∧ FrAt wr fb Pk Fk ∧ (∀ j, Ok j → ¬ Pk j) ∧ Grown O W1 wr Ok ∧ Grown (fun j => j = fb) W1 wr Pk ∧ But (fun j => O j ∨ j = fb) W1 wr ∧ G Mk Fk ∧ Mk.clock ≤ M.clock + k ∧ Hid (alone st most.toNat M (Fr.of kind pri val d0 d1) = alone st (most.toNat - k) Mk Fk)) (fun s _ => (most - intOf s).toNat)
  case atStart =>
    obtain ⟨hfb, hab, hz1⟩ := hLt.out
    exact ⟨0, M, _, O, _, rfl, .inr rfl, hM1, hF1, fun j hj e => by have := hOf _ hj; omega, Grown.refl _ _ _, Grown.refl _ _ _, But.refl _ _, HG.out, Nat.le_refl _, hidq rfl⟩
  case round =>
    obtain ⟨k, Mk, Fk, Ok, Pk, rfl, hk, hM, hF, hD, hGO, hGP, hB, hg, hck, hal⟩ := hrel
    obtain ⟨hfb, hab, hz1⟩ := hLt.out
    have hsz := hB.size
    have hnab : ¬ (O ab ∨ ab = fb) := by
      rintro (e | e)
      · have := hOf _ e; omega
      · omega
    have hAr := HA.out.but hB hnab
    have hck0 := HCK.out
    by_cases hlt : (k : Int) < most
    · obtain ⟨m, hm2⟩ : ∃ m, most.toNat - k = m + 1 := ⟨most.toNat - k - 1, by omega⟩
      have hS := hidq (HST.out wr b fb Ok Pk Mk Fk hM hF hD hg (by omega))
      have hon := HFN.out.on Mk Fk hg
      have hcl := HFN.out.clock Mk Fk
      have HAL := hidq (fun r (hr : st Mk Fk = r) => (show alone st most.toNat M (Fr.of kind pri val d0 d1) = if r.2.2.2 = true then (r.1, r.2.2.1, true) else alone st m r.1 r.2.1 from by rw [hal.out, hm2, ← hr]; rfl))
      generalize hr : st Mk Fk = r at *
      obtain ⟨M', F', A, d⟩ := r
      have HAL2 := hidq (HAL.out _ rfl)
      have HM2 := hidq hm2
      have HCLK := hidq (And.intro hck hcl)
      have HON0 := hidq hon
      have HE := hidq (And.intro hfb (And.intro hab hz1))
      clear hM hF hr HAL hal hm2 hck hcl hck0 hon hfb hab hz1 hg
      go_wp2_with fail
      refine hS.out.mono ?_
      rintro e w2 ⟨rfl, O2, P2, hM2, hF2, hD2, hGO2, hGP2, hB2⟩
      have hs2 := hB2.size
      obtain ⟨hfb, hab, hz1⟩ := HE.out
      have hOk : ∀ j, Ok j → j ≠ ab := fun j hj e => by
        rcases hGO j hj with q | q
        · have := hOf _ q; omega
        · omega
      have hPk : ∀ j, Pk j → j ≠ ab := fun j hj e => by
        rcases hGP j hj with q | q
        · omega
        · omega
      have hA2 := hAr.but hB2 (fun e => by
        rcases e with e | e
        · exact hOk _ e rfl
        · exact hPk _ e rfl)
      have hBall : But (fun j => O j ∨ j = fb) W1 w2 := hB.then hB2 (fun j hj e => by
        rcases e with e | e
        · rcases hGO j e with q | q
          · exact .inl q
          · omega
        · rcases hGP j e with q | q
          · exact .inr q
          · omega)
      have hGO' := hGO.trans hGO2 hsz hs2
      have hGP' := hGP.trans hGP2 hsz hs2
      obtain ⟨g0, x0⟩ := hA2.get 0 _ rfl
      obtain ⟨g1, x1⟩ := hA2.get 1 _ rfl
      obtain ⟨g2, x2⟩ := hA2.get 2 _ rfl
      obtain ⟨g3, x3⟩ := hA2.get 3 _ rfl
      have hal2 := hA2.lt
      obtain ⟨aok, api, av, an⟩ := A
      dsimp only [Ans.v] at *
      cases d
      · have hon2 := HON0.out rfl
        have FIN := hidq (fun w4 (h4 : But (fun j => j = w2.heap.size) w2 w4) => (show MemAt w4 b O2 M' ∧ FrAt w4 fb P2 F' ∧ Grown O W1 w4 O2 ∧ Grown (fun j => j = fb) W1 w4 P2 ∧ But (fun j => O j ∨ j = fb) W1 w4 from by
          have hs4 := h4.size
          refine ⟨hM2.but h4 (fun j hj e => by have := hM2.lt j hj; omega), hF2.but h4 (fun j hj e => by have := hF2.lt j hj; omega), ?_, ?_, hBall.then h4 (fun j hj e => by omega)⟩
          · intro j hj
            rcases hGO' j hj with q | q
            · exact .inl q
            · exact .inr ⟨q.1, by omega⟩
          · intro j hj
            rcases hGP' j hj with q | q
            · exact .inl q
            · exact .inr ⟨q.1, by omega⟩))
        have HON := hidq hon2
        have HD2 := hidq hD2
        clear hM2 hF2 hB2 hB hBall hon2 hA2 hGO hGP hGO2 hGP2 hGO' hGP' hD hD2 hS hAr g0 x0 g1 x1 g2 x2 g3 x3 hfb hab hz1
        go_wp2
        go_roundw
        case rel =>
          obtain ⟨e1, e2, e3, e4, e5⟩ := FIN.out _ ((But.refl _ w2).alloc _)
          refine ⟨k + 1, M', F', O2, P2, by go_num, .inl (by omega), e1, e2, HD2.out, e3, e4, e5, HON.out, by have := HCLK.out; omega, hidq ?_⟩
          rw [HAL2.out, show most.toNat - (k + 1) = m by have := HM2.out; omega]
          rfl
        case measure => simp [intOf]; omega
      · have HAL3 : alone st most.toNat M (Fr.of kind pri val d0 d1) = (M', ⟨aok, api, av, an⟩, true) := by rw [HAL2.out]; rfl
        have HAL4 := hidq HAL3
        have FIN := hidq (fun w4 (h4 : But (fun j => j = w2.heap.size ∨ j = ab) w2 w4) => (show AEnd b O (M', ⟨aok, api, av, an⟩, true) w (.returned (.tuple #[(⟨aok, api, av, an⟩ : Ans).v, .bool true])) w4 from by
          have hs4 := h4.size
          refine ⟨rfl, O2, hM2.but h4 (fun j hj e => ?_), ?_, ?_⟩
          · rcases e with e | e
            · have := hM2.lt j hj; omega
            · subst e
              rcases hGO' _ hj with q | q
              · have := hOf _ q; omega
              · omega
          · intro j hj
            rcases hGO' j hj with q | q
            · exact .inl q
            · exact .inr ⟨by omega, by omega⟩
          · refine ((But.of_below HB.out).then hBall (fun j hj e => ?_)).then h4 (fun j hj e => by omega)
            rcases e with e | e
            · exact e
            · omega))
        have GA := hidq (fun o => (setBox_box (⟨aok, api, av, an⟩ : Ans).s hA2).below ((Below.refl _ _).alloc (Nat.le_refl _) o))
        clear hM2 hF2 hB2 hB hBall HAL2 HAL3 hA2 hGO hGP hGO2 hGP2 hGO' hGP' hD hD2 hS hAr HCLK HM2 hfb hz1
        go_wp2
        exact ret_ans (A := ⟨aok, api, av, an⟩) Try.results13 (GA.out _) rfl rfl rfl (by
          rw [HAL4.out]
          exact FIN.out _ ((((((But.refl _ w2).set1 _ _ (.inr rfl) _).set1 _ _ (.inr rfl) _).set1 _ _ (.inr rfl) _).set1 _ _ (.inr rfl) _).alloc _))
    · have hdl : decide ((k : Int) < most) = false := decide_eq_false hlt
      have hm0 : most.toNat - k = 0 := by omega
      have HAL : Hid (alone st most.toNat M (Fr.of kind pri val d0 d1) = (Mk, Ans.zero, false)) := hidq (by rw [hal.out, hm0]; rfl)
      have FIN := hidq (fun w4 (h4 : But (fun j => j = ab) wr w4) => (show AEnd b O (Mk, Ans.zero, false) w (.returned (.tuple #[Ans.zero.v, .bool false])) w4 from by
          have hs4 := h4.size
          refine ⟨rfl, Ok, hM.but h4 (fun j hj e => ?_), ?_, ?_⟩
          · subst e
            rcases hGO _ hj with q | q
            · have := hOf _ q; omega
            · omega
          · intro j hj
            rcases hGO j hj with q | q
            · exact .inl q
            · exact .inr ⟨by omega, by omega⟩
          · refine ((But.of_below HB.out).then hB (fun j hj e => ?_)).then h4 (fun j hj e => by omega)
            rcases e with e | e
            · exact e
            · omega))
      have GA := hidq (setBox_box Ans.zero.s hAr)
      obtain ⟨g0, x0⟩ := hAr.get 0 _ rfl
      obtain ⟨g1, x1⟩ := hAr.get 1 _ rfl
      obtain ⟨g2, x2⟩ := hAr.get 2 _ rfl
      obtain ⟨g3, x3⟩ := hAr.get 3 _ rfl
      clear hM hF hD hGO hGP hB hg hck hal hfb hab hz1 hsz hnab hAr hck0 hm0
      go_wp2
      exact ret_ans (A := Ans.zero) Try.results13 GA.out rfl rfl rfl (by
        rw [HAL.out]
        exact FIN.out _ (((((But.refl (fun j => j = ab) wr).set1 _ _ rfl _).set1 _ _ rfl _).set1 _ _ rfl _).set1 _ _ rfl _))
end Go.Proofs.Ytclcmabohpoaiaa

namespace Go.Proofs.Ytclcmabohpoaiaa
open Go.RowKit

theorem rinto_any (d n : Int) (w : World) (hn : n ≤ 9223372036854775807) :
    Calls Try.prog 8 #[.int .i64 d, .int .i64 n] w fun e w' => e = .returned (.int .i64 (into d n)) ∧ w' = w := by
  by_cases h : n < 1
  · rw [into_lo h]
    go_enter Try.func8, Try.ntmps8
    go_wp2
    go_ret
    exact ⟨rfl, rfl⟩
  · rw [into_hi h]
    have h1 : decide (n < 1) = false := decide_eq_false h
    have hn0 : (n == 0) = false := by simp; omega
    have hn1 : 1 ≤ n := by omega
    by_cases hm : d.tmod n < 0
    · have e1 := tmod_emod_neg hn1 hm
      have e2 := Int.lt_tmod_of_pos d (show 0 < n by omega)
      have hw : wrap64 (d.tmod n + n) = d % n := by unfold wrap64; omega
      have HW : Hid (∀ _ : Unit, wrap64 (d.tmod n + n) = d % n) := fun _ => hw
      clear e1 hw e2
      go_enter Try.func8, Try.ntmps8
      go_wp2
      go_ret
      exact ⟨by rw [← HW ()]; rfl, rfl⟩
    · have e1 : d.tmod n = d % n := tmod_emod_nonneg hn1 (by omega)
      have HW : Hid (∀ _ : Unit, d.tmod n = d % n) := fun _ => e1
      have hm1 : decide (d.tmod n < 0) = false := decide_eq_false hm
      clear e1
      go_enter Try.func8, Try.ntmps8
      go_wp2
      go_ret
      exact ⟨by rw [← HW ()]; rfl, rfl⟩

/-- The reference's Legal at a kind that is no Net. -/
theorem rlegal_any (k p : Int) (w : World) (hk : 1 ≤ k ∧ k ≤ 3) : Calls Try.prog 19 #[.int .i64 k, .int .i64 p] w fun e w' => e = .returned (.int .i64 (legal k p)) ∧ w' = w := by
  have hk1 : decide (k < 1) = false := decide_eq_false (by omega)
  have hk2 : decide (4 < k) = false := decide_eq_false (by omega)
  have hk4 : (k == 4) = false := by simp; omega
  by_cases hp : p < 1
  · rw [legal_par (by omega) (by omega)]
    clear hk
    go_enter Try.func19, Try.ntmps19
    go_wp2
    go_ret
    exact ⟨rfl, rfl⟩
  · have hp1 : decide (p < 1) = false := decide_eq_false hp
    by_cases hq : 16 < p
    · rw [legal_par (by omega) (by omega)]
      clear hk hp
      go_enter Try.func19, Try.ntmps19
      go_wp2
      go_ret
      exact ⟨rfl, rfl⟩
    · have hq1 : decide (16 < p) = false := decide_eq_false hq
      rw [legal_ok (by omega) (by omega) (by omega)]
      clear hk hp hq
      go_enter Try.func19, Try.ntmps19
      go_wp2
      go_ret
      exact ⟨rfl, rfl⟩
end Go.Proofs.Ytclcmabohpoaiaa

namespace Go.Proofs.Ytclcmabohpoaiaa
open Go.RowKit Go.Sort

theorem run_equalIn_flt {P : Program} (d : Nat) (t : TypeId) (a b : Nat) (w : World) (h : P.underlying t = some (.float .f64)) : (Op.equalIn (d + 1) t (.float .f64 a) (.float .f64 b)).run P w = .ok (Op.floatEq .f64 a b) w := by
  simp [Op.equalIn, run_underlying h]

/-- What holds between two rounds. -/
def AwR (w : World) (sb mb i : Nat) (wr : World) : Prop := ∃ O : Nat → Prop, St w wr sb [.int .i64 2] mb O (awM i)

set_option maxRecDepth 20000 in
set_option maxHeartbeats 8000000 in
theorem awake9_any (w : World) : Calls Try.prog 17 #[] w fun e w' => e = .returned (.bool true) ∧ Below w.heap.size w w' := by
  have hN := knew_any 2 w
  rw [show knewV 2 = .agg #[.int .i64 2] from if_pos (by decide), show legal 2 2 = 0 by decide] at hN
  have hef := fun d a b w => run_equalIn_flt (P := Try.prog) d 33 a b w Try.underlying33
  have hq0 : Op.floatEq .f64 0 0 = true := by decide
  have hsf := run_store_flt (P := Try.prog)
  have hSl := fun W => kslot_any 2 3 1 W (by decide) (by decide) (by decide)
  rw [show kslot 2 3 1 = 9 by decide] at hSl
  have hF1 := fun W => kfits_any 2 (-1) W (by decide)
  rw [show kfits 2 (-1) = false by decide] at hF1
  have hF2 := fun W => kfits_any 2 498 W (by decide)
  rw [show kfits 2 498 = true by decide] at hF2
  go_enter Try.func17, Try.ntmps17
  go_wp2_with fail
  refine hN.mono ?_
  rintro e w1 ⟨rfl, hb1⟩
  clear hN
  obtain ⟨sb, hsb⟩ : ∃ sb, w1.heap.size = sb := ⟨_, rfl⟩
  obtain ⟨W1, hW1', hbW, hsW, hB1⟩ := one_new w1 [.int .i64 2] 57
  have hW1 : w1.alloc (.cells #[.int .i64 2] 57) = W1 := hW1'
  rw [hsb] at hB1 hsW
  have H1 := hidq (And.intro hB1 (And.intro (hb1.trans (hbW.mono hb1.size)) (And.intro hb1.size (And.intro hsb hsW))))
  clear hB1 hbW hsW hb1 hW1'
  go_wp2_with fail
  refine (new5_any _).mono ?_
  rintro e w2 ⟨rfl, hM2, hb2⟩
  obtain ⟨mb, hmb⟩ : ∃ mb, W1.heap.size = mb := ⟨_, rfl⟩
  rw [hmb] at hM2 ⊢
  obtain ⟨hB1, hbw, hs1, _, hsW⟩ := H1.out
  have HT0 := hidq (show AwR w sb mb 0 w2 from ⟨_, hM2, fun k e => by omega, hB1.below hb2, hbw.trans (hb2.mono hbw.size)⟩)
  clear hB1 hbw hs1 hsW hM2 hb2 H1 hmb hW1 hsb
  go_wp2_with fail
  go_loopw [14] (fun s14 wr => ∃ i : Nat, s14 = .int .i64 (i : Int) ∧ i ≤ 3 ∧ Hid (AwR w sb mb i wr)) (fun s14 _ => 3 - (intOf s14).toNat)
  case atStart => exact ⟨0, rfl, Nat.zero_le _, HT0⟩
  case round =>
    obtain ⟨i, rfl, hi, hT⟩ := hrel
    clear HT0
    obtain ⟨O, hS⟩ := hT.out
    have hok := awM_ok i
    have r0 := (hS.box.get 0 _ rfl).1
    have hsl := hS.box.lt
    have HS := hidq hS
    by_cases hlt : i < 3
    · have hltI : (i : Int) < 3 := by omega
      have hal := aloneK_any 2 (kstep_is 2 (by decide)) (kFine 2 (by decide)) mb O (awM i) 3 0 ((i : Int) + 1) 0 0 20 wr hS.mem (kGood.start (by decide) 3 0 _ 0 0 (.inl rfl) (by decide) hok.1) (by decide) (by omega)
      have HAL := hidq hal
      clear hS hT hal hok
      go_wp2_with fail
      refine HAL.out.mono ?_
      rintro e w3 ⟨rfl, O3, hM3, hG3, hB3⟩
      have HN := hidq (show AwR w sb mb (i + 1) w3 from ⟨O3, HS.out.call hM3 hG3 hB3⟩)
      clear hM3 hG3 hB3 HAL HS r0 hsl
      go_wp2_with fail
      go_roundw
      case rel => exact ⟨i + 1, by go_num, by omega, HN⟩
      case measure => simp [intOf]; omega
    · have hi3 : i = 3 := by omega
      subst hi3
      have hal := aloneK_any 2 (kstep_is 2 (by decide)) (kFine 2 (by decide)) mb O (awM 3) 4 0 0 1 0 20 wr hS.mem (kGood.start (by decide) 4 0 _ 1 0 (.inr rfl) (by decide) hok.1) (by decide) (by omega)
      have hdq := awM_deq
      rw [show (20 : Int).toNat = 20 from rfl] at hal
      generalize alone (kStep 2) 20 (awM 3) (Fr.of 4 0 0 1 0) = r at hal hdq
      obtain ⟨M9, A9⟩ := r
      have hA9 : A9 = (⟨true, 0, 2, 0⟩, true) := hdq
      subst hA9
      have HAL := hidq hal
      clear hS hT hal hok hdq
      go_wp2_with fail
      refine HAL.out.mono ?_
      rintro e w3 ⟨rfl, O3, hM3, hG3, hB3⟩
      have HS3 := hidq ((HS.out.call hM3 hG3 hB3).alloc (.cells #[.bool true, .float .f64 0, .int .i64 2, .int .i64 0] 48))
      clear hM3 hG3 hB3 HAL HS r0 hsl
      have r0 := (HS3.out.box.get 0 _ rfl).1
      have hsl := HS3.out.box.lt
      go_wp2_with fail
      refine (hSl _).mono ?_
      rintro e w4 ⟨rfl, hb4⟩
      have HS4 := hidq (HS3.out.below hb4)
      clear hb4 HS3 r0 hsl hSl
      have r0 := (HS4.out.box.get 0 _ rfl).1
      have hsl := HS4.out.box.lt
      go_wp2_with fail
      refine (hF1 _).mono ?_
      rintro e w5 ⟨rfl, hb5⟩
      have HS5 := hidq (HS4.out.below hb5)
      clear hb5 HS4 r0 hsl hF1
      have r0 := (HS5.out.box.get 0 _ rfl).1
      have hsl := HS5.out.box.lt
      go_wp2_with fail
      refine (hF2 _).mono ?_
      rintro e w6 ⟨rfl, hb6⟩
      have HB := hidq (HS5.out.below hb6).low
      clear hb6 HS5 r0 hsl hF2
      go_wp2
      go_ret
      exact ⟨rfl, HB.out⟩
end Go.Proofs.Ytclcmabohpoaiaa

namespace Go.Proofs.Ytclcmabohpoaiaa
open Go.RowKit Go.Sort

/-- The head moves on. -/
theorem QI.head {k h t : Nat} {M : Mem} {l : List KI} (q : QI k M h t l) (hlt : h < t) (hall : ∀ j, j < k → (M.cell (sl k h j)).n ≠ 1) : QI k (M.put 0 ((h : Int) + 1) []) (h + 1) t l := by
  have ho : ∀ s j, (M.put 0 ((h : Int) + 1) []).cell (sl k s j) = M.cell (sl k s j) := fun s j => put_other _ _ _ (by have := sl_ge k s j; omega)
  have hb := q.km.1 0
  rw [q.hd] at hb
  refine ⟨by rw [put_same]; show (h : Int) + 1 = _; omega, by rw [put_other _ _ _ (by decide)]; exact q.tl, hlt, fun s j hj hs => by rw [ho]; exact q.late s j hj hs, fun s j hj hs => by rw [ho]; exact q.mid s j hj hs, fun s j hj hs => by rw [ho]; exact q.fresh s j hj (by omega), fun s j hj => by rw [ho]; exact q.two s j hj, ?_, q.km.put 0 _ [] (by omega) (by omega) (fun e => by omega)⟩
  have hbl := q.items
  rw [show t + 1 - h = (t + 1 - (h + 1)) + 1 by omega] at hbl
  obtain ⟨a, b, h1, h2, h3⟩ := hbl
  rw [segI_none hall] at h2
  have ha : a = [] := List.perm_nil.1 h2
  subst ha
  rw [List.nil_append] at h1
  subst h1
  exact Blocks.congr _ _ _ (fun i _ _ => segI_congr (fun j _ => ho i j)) h3
/-- A slot is Taken. -/
theorem QI.deq {k h t j : Nat} {M : Mem} {l : List KI} {x : KI} (q : QI k M h t l) (hj : j < k) (hz : (M.cell (sl k h j)).n = 1) (hx : (M.cell (sl k h j)).L = kit [x]) : x ∈ l.take k ∧ QI k (M.put (sl k h j) 2 []) h t (l.erase x) := by
  have hg := sl_ge k h j
  have hle := q.le
  have hsx : slotI M k h j = some x := by unfold slotI; rw [if_pos hz, hx, kis_kit1]
  have ho : ∀ s i, i < k → ¬ (s = h ∧ i = j) → (M.put (sl k h j) 2 []).cell (sl k s i) = M.cell (sl k s i) := fun s i hi hn => put_other _ _ _ (fun e => hn (sl_inj hi hj e))
  have hn : ∀ s i, i < k → ((M.put (sl k h j) 2 []).cell (sl k s i)).n = if s = h ∧ i = j then 2 else (M.cell (sl k s i)).n := fun s i hi => by
    by_cases e : s = h ∧ i = j
    · rw [if_pos e, e.1, e.2, put_same]
    · rw [if_neg e, ho s i hi e]
  have hp : (segI M k h).Perm (segI (M.put (sl k h j) 2 []) k h ++ [x]) := by
    refine filterMap_add hj (by unfold slotI; rw [put_same]; rfl) hsx (fun i hi => ?_)
    unfold slotI
    by_cases hik : i < k
    · rw [ho h i hik (by omega)]
    · unfold sl
      rw [put_other _ _ _ (by omega)]
  have hbl := q.items
  rw [show t + 1 - h = (t - h) + 1 by omega] at hbl
  obtain ⟨a, b, h1, h2, h3⟩ := hbl
  have hxa : x ∈ a := h2.mem_iff.2 (hp.mem_iff.2 (List.mem_append_right _ List.mem_cons_self))
  have hal : a.length ≤ k := by rw [h2.length_eq]; exact segI_le M k h
  refine ⟨?_, ?_⟩
  · rw [h1, List.take_append, List.take_of_length_le hal]
    exact List.mem_append_left _ hxa
  · refine ⟨by rw [put_other _ _ _ (by omega)]; exact q.hd, by rw [put_other _ _ _ (by omega)]; exact q.tl, hle, fun s i hi hs => ?_, fun s i hi hs => ?_, fun s i hi hs => ?_, fun s i hi => ?_, ?_, q.km.put _ 2 _ (by decide) (by omega) (fun _ e => absurd e (by decide))⟩
    · rw [hn s i hi, if_neg (by omega)]; exact q.late s i hi hs
    · rw [hn s i hi]; split
      · decide
      · exact q.mid s i hi hs
    · rw [hn s i hi, if_neg (by omega)]; exact q.fresh s i hi hs
    · rw [hn s i hi]; split
      · exact .inr (.inr rfl)
      · exact q.two s i hi
    · rw [show t + 1 - h = (t - h) + 1 by omega]
      refine ⟨a.erase x, b, ?_, ?_, ?_⟩
      · rw [h1, List.erase_append_left _ hxa]
      · have e1 : (a.erase x).Perm ((segI (M.put (sl k h j) 2 []) k h ++ [x]).erase x) := (h2.trans hp).erase x
        refine e1.trans ?_
        have e2 : (segI (M.put (sl k h j) 2 []) k h ++ [x]).Perm (x :: segI (M.put (sl k h j) 2 []) k h) := List.perm_append_comm
        have e3 := e2.erase x
        rw [List.erase_cons_head] at e3
        exact e3
      · exact Blocks.congr _ _ _ (fun i h4 _ => segI_congr (fun u hu => ho i u hu (by omega))) h3

/-- What a Deq comes to at one segment. -/
def Pass (k h t : Nat) (M : Mem) (F : Fr) : Prop :=
  (∃ (j : Nat) (x : KI), j < k ∧ (M.cell (sl k h j)).n = 1 ∧ (M.cell (sl k h j)).L = kit [x] ∧ ∀ f, k + 4 ≤ f → alone (kStep k) f M F = (M.put (sl k h j) 2 [], ⟨true, x.b, x.v, 0⟩, true)) ∨
  ((∀ j, j < k → (M.cell (sl k h j)).n ≠ 1) ∧ (∃ j, j < k ∧ (M.cell (sl k h j)).n = 0) ∧ ∀ f, k + 2 ≤ f → alone (kStep k) f M F = (M, Ans.zero, true)) ∨
  ((∀ j, j < k → (M.cell (sl k h j)).n ≠ 1) ∧ (∀ j, j < k → (M.cell (sl k h j)).n ≠ 0) ∧ h = t ∧ ∃ F' : Fr, F'.kind = 4 ∧ F'.pc = 0 ∧ F'.d0 = F.d0 ∧ Runs (kStep k) (k + 3) M F (M.put 1 ((t : Int) + 1) []) F') ∨
  ((∀ j, j < k → (M.cell (sl k h j)).n ≠ 1) ∧ (∀ j, j < k → (M.cell (sl k h j)).n ≠ 0) ∧ h < t ∧ ∃ F' : Fr, F'.kind = 4 ∧ F'.pc = 0 ∧ F'.d0 = F.d0 ∧ Runs (kStep k) (k + 3) M F (M.put 0 ((h : Int) + 1) []) F')
theorem deq_pass {k h t : Nat} {M : Mem} {l : List KI} (F : Fr) (hk : 1 ≤ k ∧ k ≤ 16) (q : QI k M h t l) (hh : h ≤ 1000) (hw : ∀ j, j < k → sl k h j < 1000) (h4 : F.kind = 4) (h0 : F.pc = 0) : Pass k h t M F := by
  have hr := into_rng (d := F.d0) (n := (k : Int)) (by omega)
  obtain ⟨dd, hdd⟩ : ∃ dd : Nat, into F.d0 (k : Int) = (dd : Int) := ⟨(into F.d0 (k : Int)).toNat, by omega⟩
  have hdk : dd < k := by omega
  have hm : ∀ v, (dd + v) % k < k := fun v => Nat.mod_lt _ (by omega)
  have hl1 : M.look 1 = M.cell 1 := look_nat 1
  have hl0 : M.look 0 = M.cell 0 := look_nat 0
  have hle := q.le
  have s0 : kStep k M F = (M, { kBegin M F 0 with pc := 1 }, Ans.zero, false) := by unfold kStep; rw [if_neg (by omega), kDeq_0 h0]
  obtain ⟨F1, hF1⟩ : ∃ F1, ({ kBegin M F 0 with pc := 1 } : Fr) = F1 := ⟨_, rfl⟩
  rw [hF1] at s0
  have a1 : F1.kind = 4 := by rw [← hF1]; exact h4
  have a2 : F1.pc = 1 := by rw [← hF1]
  have a3 : F1.seen = ((0 : Nat) : Int) ∧ F1.empty = false := by rw [← hF1]; exact ⟨rfl, rfl⟩
  have a4 : F1.seg = (h : Int) := by rw [← hF1]; show (M.look 0).n = _; rw [hl0]; exact q.hd
  have a5 : F1.d0 = F.d0 := by rw [← hF1]; rfl
  have a6 : F1.at_ = 0 ∧ F1.c0 = M.cell 0 := by rw [← hF1]; exact ⟨rfl, hl0⟩
  have hs1 : ∃ F2, kStep k M F1 = (M, F2, Ans.zero, false) ∧ F2.kind = 4 ∧ F2.pc = 2 ∧ F2.seen = ((0 : Nat) : Int) ∧ F2.empty = false ∧ F2.seg = (h : Int) ∧ F2.d0 = F.d0 ∧ (if h = t then F2.at_ = 1 ∧ F2.c0 = M.cell 1 else F2.at_ = 0 ∧ F2.c0 = M.cell 0) := by
    by_cases e : h = t
    · refine ⟨{ F1 with at_ := 1, c0 := M.look 1, pc := 2 }, ?_, a1, rfl, a3.1, a3.2, a4, a5, ?_⟩
      · unfold kStep; rw [if_neg (by omega), kDeq_1y a2 (by rw [hl1, q.tl, a4, e])]
      · rw [if_pos e]; exact ⟨rfl, hl1⟩
    · refine ⟨{ F1 with pc := 2 }, ?_, a1, rfl, a3.1, a3.2, a4, a5, ?_⟩
      · unfold kStep; rw [if_neg (by omega), kDeq_1n a2 (by rw [hl1, q.tl, a4]; omega)]
      · rw [if_neg e]; exact a6
  obtain ⟨F2, s1, b1, b2, b3, b4, b5, b6, b7⟩ := hs1
  have hR0 := (Runs.one s0).trans (Runs.one s1)
  have hcov : ∀ (P : Nat → Prop), (∀ v, 0 ≤ v → v < k → P ((dd + v) % k)) → ∀ j, j < k → P j := fun P hP j hj => by
    obtain ⟨u, hu, hu2⟩ := cover hdk hj
    rw [← hu2]; exact hP u (Nat.zero_le _) hu
  rcases deq_look hk hh M k 0 F2 (by omega) hk.1 b1 b2 b3 b5 (by rw [b6]; exact hdd) with ⟨u, c, e, _, hu, hc, hz, hR⟩ | ⟨hall, ⟨hem, ha⟩ | ⟨_, hne, hR⟩⟩
  · rw [hc] at hz
    obtain ⟨x, hx⟩ := q.km.2 _ (sl_ge _ _ _) hz
    refine Or.inl ⟨(dd + u) % k, x, hm u, hz, hx, (fun f hf => (hR0.trans hR).done (F2 := { F2 with seen := (u : Int), empty := e, c1 := c, pc := 0 }) ?_ (by omega))⟩
    have hat := kAt_sl (F := { F2 with seen := (u : Int), empty := e, c1 := c, pc := 3 }) (u := u) hk.1 b5 hh (by show into F2.d0 _ = _; rw [b6]; exact hdd) rfl
    unfold kStep
    rw [if_neg (by show ¬ F2.kind = 3; omega), kDeq_3 rfl (show c.L = kit [x] by rw [hc]; exact hx)]
    unfold kWrite
    rw [hat, hc]
    dsimp only
    rw [can_self (hw _ (hm u)), write_self (hw _ (hm u)), if_pos rfl]
  · refine Or.inr (Or.inl ⟨hcov (fun j => (M.cell (sl k h j)).n ≠ 1) hall, ?_, fun f hf => ?_⟩)
    · rcases hem with e | ⟨v, _, hv, hv2⟩
      · rw [b4] at e; cases e
      · exact ⟨_, hm v, hv2⟩
    · obtain ⟨m, rfl⟩ : ∃ m, f = 1 + 1 + (k + m) := ⟨f - k - 2, by omega⟩
      rw [hR0, ha]
  · have g1 := hcov (fun j => (M.cell (sl k h j)).n ≠ 1) hall
    have g0 := hcov (fun j => (M.cell (sl k h j)).n ≠ 0) hne
    have hmv : kStep k M { F2 with seen := (k : Int), empty := false, pc := 4 } = (M.write F2.at_ F2.c0.ver ((h : Int) + 1) [], { F2 with seen := (k : Int), empty := false, pc := 0 }, Ans.zero, false) := by
      unfold kStep
      rw [if_neg (by show ¬ F2.kind = 3; omega), kDeq_4 (by show (4 : Int) ≠ 0; decide) (by show (4 : Int) ≠ 1; decide) (by show (4 : Int) ≠ 2; decide) (by show (4 : Int) ≠ 3; decide)]
      unfold kMove
      show (M.write F2.at_ F2.c0.ver (F2.seg + 1) [], _, _, _) = _
      rw [b5]
    by_cases e : h = t
    · rw [if_pos e] at b7
      have hwr : M.write F2.at_ F2.c0.ver ((h : Int) + 1) [] = M.put 1 ((h : Int) + 1) [] := by rw [b7.1, b7.2]; exact write_self (i := 1) (by decide) _ _
      rw [hwr] at hmv
      refine Or.inr (Or.inr (Or.inl ⟨g1, g0, e, { F2 with seen := (k : Int), empty := false, pc := 0 }, b1, rfl, b6, ?_⟩))
      rw [← e]
      exact ((hR0.trans hR).trans (Runs.one hmv)).cast (by omega)
    · rw [if_neg e] at b7
      have hwr : M.write F2.at_ F2.c0.ver ((h : Int) + 1) [] = M.put 0 ((h : Int) + 1) [] := by rw [b7.1, b7.2]; exact write_self (i := 0) (by decide) _ _
      rw [hwr] at hmv
      exact Or.inr (Or.inr (Or.inr ⟨g1, g0, by omega, { F2 with seen := (k : Int), empty := false, pc := 0 }, b1, rfl, b6, ((hR0.trans hR).trans (Runs.one hmv)).cast (by omega)⟩))
theorem QI.nil {k h t : Nat} {M : Mem} {l : List KI} (q : QI k M h t l) (he : h = t) (h1 : ∀ j, j < k → (M.cell (sl k h j)).n ≠ 1) : l = [] := by
  have hbl := q.items
  rw [show t + 1 - h = 0 + 1 by omega] at hbl
  obtain ⟨a, b, e1, e2, e3⟩ := hbl
  rw [segI_none h1] at e2
  rw [e1, List.perm_nil.1 e2, show b = [] from e3]; rfl
/-- A Deq that nobody disturbs. -/
theorem deq_alone {k h t : Nat} {M : Mem} {l : List KI} (p : Nat) (v d d1 : Int) (f : Nat) (hk : 1 ≤ k ∧ k ≤ 16) (q : QI k M h t l) (hf : 3 * k + 10 ≤ f) (hfit : t + 1 < 998 / k) :
    (l = [] ∧ ∃ M' h' t', alone (kStep k) f M (Fr.of 4 p v d d1) = (M', Ans.zero, true) ∧ QI k M' h' t' [] ∧ t' ≤ t + 1) ∨
    (∃ x M' h', alone (kStep k) f M (Fr.of 4 p v d d1) = (M', ⟨true, x.b, x.v, 0⟩, true) ∧ x ∈ l.take k ∧ QI k M' h' t (l.erase x)) := by
  have hw : ∀ s, s ≤ t + 1 → s ≤ 1000 ∧ ∀ j, j < k → sl k s j < 1000 := fun s hs => fits_nat hk.1 ((fits_true (t := s) hk.1).2 (by omega))
  have hle := q.le
  have w0 := hw h (by omega)
  rcases deq_pass (Fr.of 4 p v d d1) hk q w0.1 w0.2 rfl rfl with ⟨j, x, hj, hz, hx, ha⟩ | ⟨h1, ⟨j, hj, h0⟩, ha⟩ | ⟨h1, h0, he, F', b1, b2, _, hr⟩ | ⟨h1, h0, he, F', b1, b2, _, hr⟩
  · obtain ⟨m1, m2⟩ := q.deq hj hz hx
    exact .inr ⟨x, _, h, ha f (by omega), m1, m2⟩
  · have he : h = t := by
      rcases Nat.lt_or_ge h t with e | e
      · exact absurd h0 (q.mid h j hj e)
      · omega
    have hl := q.nil he h1
    subst hl
    exact .inl ⟨rfl, _, h, t, ha f (by omega), q, by omega⟩
  · have hl := q.nil he h1
    subst hl
    have q1 := q.tail (by rw [← he]; exact h0)
    have ho : ∀ s j, (M.put 1 ((t : Int) + 1) []).cell (sl k s j) = M.cell (sl k s j) := fun s j => put_other _ _ _ (by have := sl_ge k s j; omega)
    obtain ⟨M1, hM1⟩ : ∃ M1, M.put 1 ((t : Int) + 1) [] = M1 := ⟨_, rfl⟩
    rw [hM1] at q1 hr ho
    left
    refine ⟨rfl, ?_⟩
    rcases deq_pass F' hk q1 w0.1 w0.2 b1 b2 with ⟨j, x, hj, hz, _, _⟩ | ⟨_, ⟨j, hj, h0'⟩, _⟩ | ⟨_, _, he', _⟩ | ⟨_, _, he', F2, c1, c2, _, hr2⟩
    · rw [ho] at hz; exact absurd hz (h1 j hj)
    · rw [ho] at h0'; exact absurd h0' (h0 j hj)
    · omega
    · have q2 := q1.head he' (fun j hj => by rw [ho]; exact h1 j hj)
      have ho2 : ∀ s j, (M1.put 0 ((h : Int) + 1) []).cell (sl k s j) = M1.cell (sl k s j) := fun s j => put_other _ _ _ (by have := sl_ge k s j; omega)
      obtain ⟨M2, hM2⟩ : ∃ M2, M1.put 0 ((h : Int) + 1) [] = M2 := ⟨_, rfl⟩
      rw [hM2] at q2 hr2 ho2
      have w1 := hw (h + 1) (by omega)
      have hz2 : ∀ j, j < k → (M2.cell (sl k (h + 1) j)).n = 0 := fun j hj => by rw [ho2, ho]; exact q.late _ j hj (by omega)
      rcases deq_pass F2 hk q2 w1.1 w1.2 c1 c2 with ⟨j, x, hj, hz, _, _⟩ | ⟨_, _, ha⟩ | ⟨_, h0', _⟩ | ⟨_, h0', _⟩
      · rw [hz2 j hj] at hz; exact absurd hz (by decide)
      · refine ⟨M2, h + 1, t + 1, ?_, q2, Nat.le_refl _⟩
        obtain ⟨m, rfl⟩ : ∃ m, f = k + 3 + (k + 3 + m) := ⟨f - (k + 3) - (k + 3), by omega⟩
        rw [hr, hr2, ha m (by omega)]
      · exact absurd (hz2 0 hk.1) (h0' 0 hk.1)
      · exact absurd (hz2 0 hk.1) (h0' 0 hk.1)
  · have q1 := q.head he h1
    have ho : ∀ s j, (M.put 0 ((h : Int) + 1) []).cell (sl k s j) = M.cell (sl k s j) := fun s j => put_other _ _ _ (by have := sl_ge k s j; omega)
    obtain ⟨M1, hM1⟩ : ∃ M1, M.put 0 ((h : Int) + 1) [] = M1 := ⟨_, rfl⟩
    rw [hM1] at q1 hr ho
    have w1 := hw (h + 1) (by omega)
    have hno : ∀ j, j < k → (M1.cell (sl k (h + 1) j)).n ≠ 2 := fun j hj => by rw [ho]; exact q.fresh _ j hj (by omega)
    obtain ⟨m, rfl⟩ : ∃ m, f = k + 3 + m := ⟨f - (k + 3), by omega⟩
    rcases deq_pass F' hk q1 w1.1 w1.2 b1 b2 with ⟨j, x, hj, hz, hx, ha⟩ | ⟨g1, ⟨j, hj, g0⟩, ha⟩ | ⟨g1, g0, _⟩ | ⟨g1, g0, _⟩
    · obtain ⟨m1, m2⟩ := q1.deq hj hz hx
      exact .inr ⟨x, _, h + 1, by rw [hr]; exact ha m (by omega), m1, m2⟩
    · have he' : h + 1 = t := by
        rcases Nat.lt_or_ge (h + 1) t with e | e
        · exact absurd g0 (q1.mid _ j hj e)
        · omega
      have hl := q1.nil he' g1
      subst hl
      exact .inl ⟨rfl, M1, h + 1, t, by rw [hr]; exact ha m (by omega), q1, by omega⟩
    · rcases q1.two (h + 1) 0 hk.1 with e | e | e
      · exact absurd e (g0 0 hk.1)
      · exact absurd e (g1 0 hk.1)
      · exact absurd e (hno 0 hk.1)
    · rcases q1.two (h + 1) 0 hk.1 with e | e | e
      · exact absurd e (g0 0 hk.1)
      · exact absurd e (g1 0 hk.1)
      · exact absurd e (hno 0 hk.1)
/-- An Enq that nobody disturbs, with room. -/
theorem enq_ok {k h t : Nat} {M : Mem} {l : List KI} (p : Nat) (v d d1 : Int) (f : Nat) (hk : 1 ≤ k ∧ k ≤ 16) (hp : p < 18446744073709551616) (q : QI k M h t l) (hf : 2 * k + 5 ≤ f) (hfit : t + 1 < 998 / k) :
    ∃ M' t', alone (kStep k) f M (Fr.of 3 p v d d1) = (M', ⟨true, cbits p, v, 0⟩, true) ∧ QI k M' h t' (l ++ [mkKI p v]) ∧ t' ≤ t + 1 := by
  rcases enq_alone p v d d1 f hk hp q hf ((fits_true (t := t) hk.1).2 (by omega)) with ⟨j, hj, hz, ha⟩ | ⟨hall, ⟨_, j, hj, ha⟩ | ⟨hfit2, _⟩⟩
  · exact ⟨_, t, ha, q.enq hj hz, by omega⟩
  · have q1 := q.tail hall
    refine ⟨_, t + 1, ha, q1.enq hj ?_, Nat.le_refl _⟩
    rw [put_other _ _ _ (by have := sl_ge k (t + 1) j; omega)]
    exact q.late _ j hj (by omega)
  · rw [(fits_true (t := t + 1) hk.1).2 hfit] at hfit2; cases hfit2
end Go.Proofs.Ytclcmabohpoaiaa

namespace Go.Proofs.Ytclcmabohpoaiaa
open Go.RowKit

theorem rof_any (k : Int) (w : World) : Calls Try.prog 26 #[.int .i64 k] w fun e w' => e = .returned (.tuple #[.int .i64 (opFrom k), .int .i64 (opTo k)]) ∧ w' = w := by
  rcases kinds k with rfl | rfl | rfl | rfl | h
  · go_enter Try.func26, Try.ntmps26
    go_wp2
    go_ret2
    exact ⟨rfl, rfl⟩
  · go_enter Try.func26, Try.ntmps26
    go_wp2
    go_ret2
    exact ⟨rfl, rfl⟩
  · go_enter Try.func26, Try.ntmps26
    go_wp2
    go_ret2
    exact ⟨rfl, rfl⟩
  · go_enter Try.func26, Try.ntmps26
    go_wp2
    go_ret2
    exact ⟨rfl, rfl⟩
  · rw [(opl_none h).2.1, (opl_none h).2.2]
    obtain ⟨h1, h2, h3, h4⟩ := h
    go_enter Try.func26, Try.ntmps26
    go_wp2
    go_ret2
    exact ⟨rfl, rfl⟩
end Go.Proofs.Ytclcmabohpoaiaa

namespace Go.Proofs.Ytclcmabohpoaiaa
open Go.RowKit Go.Sort

theorem run_equalIn_float {P : Program} (d : Nat) (t : TypeId) (a b : Nat) (w : World) (h : P.underlying t = some (.float .f64)) : (Op.equalIn (d + 1) t (.float .f64 a) (.float .f64 b)).run P w = .ok (Op.floatEq .f64 a b) w := by
  simp [Op.equalIn, run_underlying h]

theorem own_any (p v : Int) (w : World) : Calls Try.prog 23 #[.agg #[.int .u64 p, .int .i64 v]] w fun e w' => e = .returned (.agg #[.float .f64 (nf p), .int .i64 v]) ∧ Below w.heap.size w w' := by
  have hsf := run_store_float (P := Try.prog)
  go_enter Try.func23, Try.ntmps23
  go_wp2
  go_region_with (go_at_call 32; refine (f_any _ _).mono ?_; rintro e w1 ⟨rfl, hw1⟩; replace hw1 := hw1.symm; subst hw1)
  all_goals go_wp2
  all_goals exact bodyPost_ret (v := .agg #[.float .f64 (nf p), .int .i64 v]) (by simp [results, Try.results23, go_sem]) rfl ⟨rfl, ((((Below.refl _ _).alloc (Nat.le_refl _) _).alloc (by simp) _)).drew⟩

theorem make_any (p v : Int) (w : World) (h0 : 0 ≤ p) (h1 : p < 18446744073709551616) :
    Calls Try.prog 27 #[.int .u64 p, .int .i64 v] w fun e w' => e = .returned (.agg #[.int .u64 (ni (cbits (nf p))), .int .i64 v]) ∧ Below w.heap.size w w' := by
  have hR := fun w => rbits_any p w h0 h1
  clear h0 h1
  go_enter Try.func27, Try.ntmps27
  go_wp2_with (go_at_call 35; refine (hR _).mono ?_; rintro e w1 ⟨rfl, hw1⟩; replace hw1 := hw1.symm; subst hw1)
  exact bodyPost_ret (v := .agg #[.int .u64 (ni (cbits (nf p))), .int .i64 v]) (by simp [results, Try.results27, go_sem]) rfl ⟨rfl, (Below.refl _ _).alloc (Nat.le_refl _) _⟩
theorem told_any (p v : Int) (w : World) (h0 : 0 ≤ p) (h1 : p < 18446744073709551616) :
    Calls Try.prog 12 #[.agg #[.int .u64 p, .int .i64 v]] w fun e w' => e = .returned (.agg #[.int .u64 (ni (cbits (nf p))), .int .i64 v]) ∧ Below w.heap.size w w' := by
  have hM := fun w => make_any p v w h0 h1
  obtain ⟨q, hq⟩ : ∃ q, ni (cbits (nf p)) = q := ⟨_, rfl⟩
  rw [hq] at hM ⊢
  clear h0 h1 hq
  go_enter Try.func12, Try.ntmps12
  go_wp2_with fail
  refine (hM _).mono ?_
  rintro e w1 ⟨rfl, hb1⟩
  have hz : w.heap.size + 1 < w1.heap.size := by have := hb1.size; simp at this; omega
  have c0 : w1.cell? ⟨w.heap.size + 1, 0, none⟩ = some (.int .u64 0) := by rw [hb1.cell (p := ⟨w.heap.size + 1, 0, none⟩) (by simp)]; simp
  have c1 : w1.cell? ⟨w.heap.size + 1, 1, none⟩ = some (.int .i64 0) := by rw [hb1.cell (p := ⟨w.heap.size + 1, 1, none⟩) (by simp)]; simp
  have z0 : w1.frozen? ⟨w.heap.size + 1, 0, none⟩ = false := by rw [hb1.frozen (p := ⟨w.heap.size + 1, 0, none⟩) (by simp)]; simp
  have z1 : w1.frozen? ⟨w.heap.size + 1, 1, none⟩ = false := by rw [hb1.frozen (p := ⟨w.heap.size + 1, 1, none⟩) (by simp)]; simp
  go_wp2
  refine bodyPost_ret (v := .agg #[.int .u64 q, .int .i64 v]) (by simp [results, Try.results12, go_sem, c0, c1]) rfl ⟨rfl, ?_⟩
  exact ((((((Below.refl _ _).alloc (Nat.le_refl _) _).alloc (by simp) _).trans (hb1.mono (by simp; omega))).setCell (by simp) _).setCell (by simp) _)

/-- Is an item the document's? -/
def isV (m : Nat) (a q b : Int) : Int := if ni m = q ∧ a = b then 0 else -1
theorem is_any (m : Nat) (a q b : Int) (w : World) : Calls Try.prog 14 #[.agg #[.float .f64 m, .int .i64 a], .agg #[.int .u64 q, .int .i64 b]] w fun e w' => e = .returned (.int .i64 (isV m a q b)) ∧ Below w.heap.size w w' := by
  have h15 := run_bits
  by_cases h1 : ni m = q
  · by_cases h2 : a = b
    · have : isV m a q b = 0 := if_pos ⟨h1, h2⟩
      rw [this]
      subst h1; subst h2
      clear this
      go_enter Try.func14, Try.ntmps14
      go_wp2
      go_quiet (fail)
      go_wp2
      go_ret
      exact ⟨rfl, below_drewN (((Below.refl _ _).alloc (Nat.le_refl _) _).alloc (by simp) _) _⟩
    · have : isV m a q b = -1 := if_neg (fun e => h2 e.2)
      rw [this]
      subst h1
      clear this
      have hb : (a != b) = true := by simpa using h2
      go_enter Try.func14, Try.ntmps14
      go_wp2
      go_quiet (fail)
      go_wp2
      go_ret
      exact ⟨rfl, below_drewN (((Below.refl _ _).alloc (Nat.le_refl _) _).alloc (by simp) _) _⟩
  · have : isV m a q b = -1 := if_neg (fun e => h1 e.1)
    rw [this]
    clear this
    have hb : (ni m != q) = true := by simpa using h1
    go_enter Try.func14, Try.ntmps14
    go_wp2
    go_quiet (fail)
    go_wp2
    go_ret
    exact ⟨rfl, below_drewN (((Below.refl _ _).alloc (Nat.le_refl _) _).alloc (by simp) _) _⟩

theorem rcmp4_any (p a q b : Int) (w : World) (h0 : 0 ≤ p) (h1 : p < 18446744073709551616) (h2 : 0 ≤ q) (h3 : q < 18446744073709551616) :
    Calls Try.prog 16 #[.agg #[.int .u64 p, .int .i64 a], .agg #[.int .u64 q, .int .i64 b]] w fun e w' => e = .returned (.int .i64 (cmpN (nf p) a (nf q) b)) ∧ Below w.heap.size w w' := by
  have hC := fun w => rcmp_any p q w h0 h1 h2 h3
  obtain ⟨c, hc⟩ : ∃ c, cmpI (key (nf p)) (key (nf q)) = c := ⟨_, rfl⟩
  rw [hc] at hC
  clear h0 h1 h2 h3
  by_cases e : c = 0
  · rw [cmpN_same (by rw [hc]; exact e)]
    subst e
    clear hc
    rcases Int.lt_trichotomy a b with h | h | h
    · rw [cmpI_lt h]
      go_enter Try.func16, Try.ntmps16
      go_wp2_with (go_at_call 29; refine (hC _).mono ?_; rintro e w1 ⟨rfl, hw1⟩; replace hw1 := hw1.symm; subst hw1)
      go_ret
      exact ⟨rfl, ((Below.refl _ _).alloc (Nat.le_refl _) _).alloc (by simp) _⟩
    · rw [cmpI_eq h]
      subst h
      go_enter Try.func16, Try.ntmps16
      go_wp2_with (go_at_call 29; refine (hC _).mono ?_; rintro e w1 ⟨rfl, hw1⟩; replace hw1 := hw1.symm; subst hw1)
      go_ret
      exact ⟨rfl, ((Below.refl _ _).alloc (Nat.le_refl _) _).alloc (by simp) _⟩
    · rw [cmpI_gt h]
      have hd : decide (a < b) = false := decide_eq_false (by omega)
      go_enter Try.func16, Try.ntmps16
      go_wp2_with (go_at_call 29; refine (hC _).mono ?_; rintro e w1 ⟨rfl, hw1⟩; replace hw1 := hw1.symm; subst hw1)
      go_ret
      exact ⟨rfl, ((Below.refl _ _).alloc (Nat.le_refl _) _).alloc (by simp) _⟩
  · rw [cmpN_other (by rw [hc]; exact e), hc]
    have hb : (c == 0) = false := by simpa using e
    clear hc e
    go_enter Try.func16, Try.ntmps16
    go_wp2_with (go_at_call 29; refine (hC _).mono ?_; rintro e w1 ⟨rfl, hw1⟩; replace hw1 := hw1.symm; subst hw1)
    go_ret
    exact ⟨rfl, ((Below.refl _ _).alloc (Nat.le_refl _) _).alloc (by simp) _⟩
end Go.Proofs.Ytclcmabohpoaiaa
