/-
  Layer 9: Enqs one by one, until there is no room: the plain mathematics.
  Layer 9: a queue's step, as a machine's: contract.
  Layer 6: an operation that nobody disturbs, on one machine: contract.
  Layer 6's reference: draws, parameters: contracts.
  Layer 9: what the laws ask first: contract.
  Layer 9's law of a full queue: the call returns true.
-/
import Derived.Test.YtclcmabohpoaiaaKf9mAll
import Derived.Test.YtclcmabohpoaiaaKf9aAll
namespace Go.Proofs.Ytclcmabohpoaiaa
open Go.RowKit Go.Sort

theorem fits_iff {k : Nat} (hk : 1 ≤ k) (s : Int) : kfits (k : Int) s = (decide (0 ≤ s) && decide (s < ((998 / k : Nat) : Int))) := by
  unfold kfits kslot
  by_cases h0 : 0 ≤ s
  · obtain ⟨n, rfl⟩ : ∃ n : Nat, s = (n : Int) := ⟨s.toNat, by omega⟩
    have key : n < 998 / k ↔ n * k + k ≤ 998 := by
      rw [show n * k + k = (n + 1) * k by rw [Nat.succ_mul], ← Nat.le_div_iff_mul_le (by omega)]
      omega
    have hb : 998 / k ≤ 998 := Nat.div_le_self _ _
    by_cases h1 : n < 998 / k
    · have h2 := key.1 h1
      rw [decide_eq_true h0, decide_eq_true (show (n : Int) < ((998 / k : Nat) : Int) by omega), decide_eq_true]
      · rfl
      · refine ⟨h0, by omega, ?_⟩
        rw [← Int.natCast_mul]
        omega
    · have h2 : ¬ n * k + k ≤ 998 := fun e => h1 (key.2 e)
      rw [decide_eq_true h0, decide_eq_false (show ¬ (n : Int) < ((998 / k : Nat) : Int) by omega), decide_eq_false]
      · rfl
      · rintro ⟨_, _, h3⟩
        rw [← Int.natCast_mul] at h3
        omega
  · rw [decide_eq_false h0, decide_eq_false (fun e => h0 e.1)]; rfl
theorem fits_true {k t : Nat} (hk : 1 ≤ k) : kfits (k : Int) (t : Int) = true ↔ t < 998 / k := by
  rw [fits_iff hk, Bool.and_eq_true, decide_eq_true_eq, decide_eq_true_eq]; omega
theorem fm_len {f : Nat → Option KI} : ∀ (l : List Nat), (∀ i ∈ l, (f i).isSome = true) → (l.filterMap f).length = l.length
  | [], _ => rfl
  | a :: l, h => by
    obtain ⟨x, hx⟩ := Option.isSome_iff_exists.1 (h a List.mem_cons_self)
    rw [List.filterMap_cons, hx]
    simp [fm_len l (fun i hi => h i (List.mem_cons_of_mem _ hi))]
theorem segI_full {M : Mem} {k s : Nat} (h : ∀ j, j < k → (M.cell (sl k s j)).n = 1) : (segI M k s).length = k := by
  unfold segI
  rw [fm_len _ (fun j hj => by unfold slotI; rw [if_pos (h j (List.mem_range.1 hj))]; rfl), List.length_range]
theorem segI_put {M : Mem} {k t j : Nat} {x : KI} (hj : j < k) (hz : (M.cell (sl k t j)).n = 0) : (segI (M.put (sl k t j) 1 (kit [x])) k t).Perm (segI M k t ++ [x]) := by
  refine filterMap_add hj (by unfold slotI; rw [hz]; rfl) (by unfold slotI; rw [put_same]; show some _ = _; rw [kis_kit1]) (fun i hi => ?_)
  unfold slotI
  by_cases hik : i < k
  · rw [put_other _ _ _ (fun e => hi (sl_inj hik hj e).2)]
  · unfold sl
    rw [put_other _ _ _ (by omega)]
theorem segI_le (M : Mem) (k s : Nat) : (segI M k s).length ≤ k := by
  unfold segI
  have := List.length_filterMap_le (slotI M k s) (List.range k)
  rw [List.length_range] at this
  exact this
/-- Behind so many Enqs. -/
def FI (k i : Nat) (M : Mem) : Prop := ∃ t l, QI k M 0 t l ∧ (∀ s j, j < k → (M.cell (sl k s j)).n ≠ 2) ∧ t < 998 / k ∧ i = t * k + (segI M k t).length
theorem FI.start {k : Nat} (hk : 1 ≤ k ∧ k ≤ 16) : FI k 0 Mem.empty := by
  refine ⟨0, [], QI.empty k, fun _ _ _ => (by show (0 : Int) ≠ 2; decide), ?_, ?_⟩
  · rw [Nat.lt_div_iff_mul_lt (by omega)]; omega
  · rw [segI_none (fun _ _ => by show (0 : Int) ≠ 1; decide)]; simp
/-- One more. -/
theorem FI.next {k i : Nat} {M : Mem} (d d1 : Int) (hk : 1 ≤ k ∧ k ≤ 16) (h : FI k i M) :
    (i < 998 / k * k ∧ ∃ M', alone (kStep k) 100 M (Fr.of 3 0 0 d d1) = (M', ⟨true, 0, 0, 0⟩, true) ∧ FI k (i + 1) M' ∧ KM M') ∨
    (i = 998 / k * k ∧ ∃ M', alone (kStep k) 100 M (Fr.of 3 0 0 d d1) = (M', Ans.zero, true) ∧ KM M') := by
  obtain ⟨t, l, q, h2, ht, hi⟩ := h
  have hfit := (fits_true (t := t) hk.1).2 ht
  have hmul : (t + 1) * k ≤ 998 / k * k := Nat.mul_le_mul_right k ht
  rw [Nat.succ_mul] at hmul
  have hle := segI_le M k t
  rcases enq_alone 0 0 d d1 100 hk (by decide) q (by omega) hfit with ⟨j, hj, hz, ha⟩ | ⟨hall, ⟨hfit2, j, hj, ha⟩ | ⟨hfit2, ha⟩⟩
  · left
    have hp := (segI_put (x := mkKI 0 0) hj hz).length_eq
    rw [List.length_append] at hp
    have hle2 := segI_le (M.put (sl k t j) 1 (kit [mkKI 0 0])) k t
    have hp' : (segI (M.put (sl k t j) 1 (kit [mkKI 0 0])) k t).length = (segI M k t).length + 1 := hp
    refine ⟨by omega, _, ha, ⟨t, _, q.enq (x := mkKI 0 0) hj hz, fun s u hu => ?_, ht, by omega⟩, (q.enq (x := mkKI 0 0) hj hz).km⟩
    by_cases e : sl k s u = sl k t j
    · rw [e, put_same]; show (1 : Int) ≠ 2; decide
    · rw [put_other _ _ _ e]; exact h2 s u hu
  · left
    have hone : ∀ j, j < k → (M.cell (sl k t j)).n = 1 := fun j hj => by
      rcases q.two t j hj with e | e | e
      · exact absurd e (hall j hj)
      · exact e
      · exact absurd e (h2 t j hj)
    have hlen := segI_full hone
    have ht2 := (fits_true (t := t + 1) hk.1).1 hfit2
    have q1 := q.tail hall
    have ho : ∀ s j, (M.put 1 ((t : Int) + 1) []).cell (sl k s j) = M.cell (sl k s j) := fun s j => put_other _ _ _ (by have := sl_ge k s j; omega)
    have hz1 : ∀ j, j < k → ((M.put 1 ((t : Int) + 1) []).cell (sl k (t + 1) j)).n = 0 := fun j hj => by rw [ho]; exact q.late _ j hj (by omega)
    have hp := (segI_put (x := mkKI 0 0) hj (hz1 j hj)).length_eq
    rw [List.length_append, segI_none (M := M.put 1 ((t : Int) + 1) []) (fun j hj => by rw [hz1 j hj]; decide)] at hp
    have hp' : (segI ((M.put 1 ((t : Int) + 1) []).put (sl k (t + 1) j) 1 (kit [mkKI 0 0])) k (t + 1)).length = 1 := hp
    have hmul2 : (t + 1 + 1) * k ≤ 998 / k * k := Nat.mul_le_mul_right k ht2
    rw [Nat.succ_mul, Nat.succ_mul] at hmul2
    refine ⟨by omega, _, ha, ⟨t + 1, _, q1.enq (x := mkKI 0 0) hj (hz1 j hj), fun s u hu => ?_, ht2, by rw [Nat.succ_mul]; omega⟩, (q1.enq (x := mkKI 0 0) hj (hz1 j hj)).km⟩
    by_cases e : sl k s u = sl k (t + 1) j
    · rw [e, put_same]; show (1 : Int) ≠ 2; decide
    · rw [put_other _ _ _ e, ho]; exact h2 s u hu
  · right
    have hone : ∀ j, j < k → (M.cell (sl k t j)).n = 1 := fun j hj => by
      rcases q.two t j hj with e | e | e
      · exact absurd e (hall j hj)
      · exact e
      · exact absurd e (h2 t j hj)
    have hlen := segI_full hone
    have ht2 : ¬ t + 1 < 998 / k := fun e => by rw [(fits_true (t := t + 1) hk.1).2 e] at hfit2; cases hfit2
    have he : t + 1 = 998 / k := by omega
    refine ⟨?_, _, ha, (q.tail hall).km⟩
    rw [← he, Nat.succ_mul]; omega
theorem alone_clock {G : Mem → Fr → Prop} {st : StepFn} (hf : Fine G st) : ∀ (n : Nat) (M : Mem) (F : Fr), (alone st n M F).1.clock ≤ M.clock + n
  | 0, _, _ => Nat.le_refl _
  | n + 1, M, F => by
    have h1 := hf.clock M F
    unfold alone
    split
    · show (st M F).1.clock ≤ _; omega
    · have := alone_clock hf n (st M F).1 (st M F).2.1
      omega

/-- The memory of the answers that the document fixes. -/
def awM : Nat → Mem
  | 0 => Mem.empty
  | i + 1 => (alone (kStep 2) 20 (awM i) (Fr.of 3 0 ((i : Int) + 1) 0 0)).1
theorem awM_ok : ∀ i, KM (awM i) ∧ (awM i).clock ≤ 20 * i
  | 0 => ⟨KM.empty, Nat.le_refl _⟩
  | i + 1 => by
    obtain ⟨h1, h2⟩ := awM_ok i
    refine ⟨KM.alone (by decide) 20 _ _ (kGood.start (by decide) 3 0 _ 0 0 (.inl rfl) (by decide) h1), ?_⟩
    have := alone_clock (kFine 2 (by decide)) 20 (awM i) (Fr.of 3 0 ((i : Int) + 1) 0 0)
    show (alone (kStep 2) 20 (awM i) (Fr.of 3 0 ((i : Int) + 1) 0 0)).1.clock ≤ _
    omega
theorem awM_deq : (alone (kStep 2) 20 (awM 3) (Fr.of 4 0 0 1 0)).2 = (⟨true, 0, 2, 0⟩, true) := by kernel_rfl
end Go.Proofs.Ytclcmabohpoaiaa

namespace Go.Proofs.Ytclcmabohpoaiaa
open Go.RowKit Go.Sort

set_option maxHeartbeats 2000000 in
theorem kstep_is (sh : Int) (hs : 1 ≤ sh ∧ sh ≤ 16) : IsStep 114 (.agg #[.int .i64 sh]) (kGood sh) (kStep sh) := by
  intro w b fb O P M F h hf hd hg hck
  obtain ⟨a0, k0, a1, k1, hB, _⟩ := hf.box
  have hfl := hB.lt
  have hsf := run_store_flt (P := Try.prog)
  have c0 := (hB.get 0 _ rfl).1
  obtain ⟨W1, hW1, hb0, hsz0, hR0, hA0⟩ := two_new w [.int .i64 sh] Ans.zero.l 57 48 0
  have hW2 : (w.alloc (.cells #[.int .i64 sh] 57)).alloc (.cells #[.bool false, .float .f64 0, .int .i64 0, .int .i64 0] 48) = W1 := hW1
  clear hW1
  have r0 := (hR0.get 0 _ rfl).1
  have c01 := (hb0.cell (p := ⟨fb, 0, none⟩) hfl).trans c0
  have hM1 := h.below hb0
  have hf1 := hf.below hb0
  have FIN := hidq (fun e w2 (hE : StepEnd b fb O P (kStep sh M F) W1 e w2) => stepEnd_on hb0 h.lt hf.lt hE hA0 (Nat.le_succ _))
  have GA := hidq (fun w2 (hb : But (fun k => O k ∨ P k) W1 w2) => hA0.but hb (fun e => by
    rcases e with e | e
    · have := h.lt _ e; omega
    · have := hf.lt _ e; omega))
  have hseg := hg.seg
  have hseen := hg.seen
  rcases hg.kind with hk | hk
  · have hC := hidq (show Calls Try.prog 115 #[.agg #[.int .i64 sh], .pointer (some ⟨b, 0, none⟩), .pointer (some ⟨fb, 0, none⟩)] W1 (StepEnd b fb O P (kStep sh M F) W1) from by
      unfold kStep; rw [if_pos hk]; exact kenq_any sh W1 b fb O P M F hM1 hf1 hd hs (by omega) (by omega) hck)
    rw [hk] at c0 c01
    clear h hf hd hB hb0 hR0 hA0 hM1 hf1 hk hg hseg hseen
    generalize kStep sh M F = r at *
    obtain ⟨M', F', A, d⟩ := r
    obtain ⟨aok, api, av, an⟩ := A
    go_enter Try.func114, Try.ntmps114
    go_wp2_with fail
    refine hC.out.mono ?_
    intro e w2 hE
    obtain ⟨e1, e2⟩ := FIN.out _ _ hE
    obtain ⟨rfl, _, _, _, _, _, _, _, hb2⟩ := hE
    have hA2 := GA.out _ hb2
    obtain ⟨g0, x0⟩ := hA2.get 0 _ rfl
    obtain ⟨g1, x1⟩ := hA2.get 1 _ rfl
    obtain ⟨g2, x2⟩ := hA2.get 2 _ rfl
    obtain ⟨g3, x3⟩ := hA2.get 3 _ rfl
    have E1 := hidq e1
    have E2 := hidq e2
    clear e1 e2 hA2 hb2 hC FIN GA hW2
    go_wp2
    exact ret_ans Try.results114 E1.out rfl rfl rfl E2.out
  · have hC := hidq (show Calls Try.prog 116 #[.agg #[.int .i64 sh], .pointer (some ⟨b, 0, none⟩), .pointer (some ⟨fb, 0, none⟩)] W1 (StepEnd b fb O P (kStep sh M F) W1) from by
      unfold kStep; rw [if_neg (by omega)]
      by_cases h0 : F.pc = 0
      · exact kdeq_0 sh W1 b fb O P M F hM1 hf1 hd h0
      · by_cases h1 : F.pc = 1
        · exact kdeq_1 sh W1 b fb O P M F hM1 hf1 hd h1
        · by_cases h2 : F.pc = 2
          · exact kdeq_2 sh W1 b fb O P M F hM1 hf1 hd hs (by omega) h2
          · by_cases h3 : F.pc = 3
            · obtain ⟨x, hx⟩ := hg.full hk h3
              exact kdeq_3 sh W1 b fb O P M F hM1 hf1 hd x hs (by omega) hck h3 hx
            · exact kdeq_4 sh W1 b fb O P M F hM1 hf1 hd (by omega) hck h0 h1 h2 h3)
    rw [hk] at c0 c01
    clear h hf hd hB hb0 hR0 hA0 hM1 hf1 hk hg hseg hseen
    generalize kStep sh M F = r at *
    obtain ⟨M', F', A, d⟩ := r
    obtain ⟨aok, api, av, an⟩ := A
    go_enter Try.func114, Try.ntmps114
    go_wp2_with fail
    refine hC.out.mono ?_
    intro e w2 hE
    obtain ⟨e1, e2⟩ := FIN.out _ _ hE
    obtain ⟨rfl, _, _, _, _, _, _, _, hb2⟩ := hE
    have hA2 := GA.out _ hb2
    obtain ⟨g0, x0⟩ := hA2.get 0 _ rfl
    obtain ⟨g1, x1⟩ := hA2.get 1 _ rfl
    obtain ⟨g2, x2⟩ := hA2.get 2 _ rfl
    obtain ⟨g3, x3⟩ := hA2.get 3 _ rfl
    have E1 := hidq e1
    have E2 := hidq e2
    clear e1 e2 hA2 hb2 hC FIN GA hW2
    go_wp2
    exact ret_ans Try.results114 E1.out rfl rfl rfl E2.out
end Go.Proofs.Ytclcmabohpoaiaa

namespace Go.Proofs.Ytclcmabohpoaiaa
open Go.RowKit Go.Sort

set_option maxHeartbeats 4000000 in
theorem aloneK_any (sh : Int) {G : Mem → Fr → Prop} {st : StepFn} (hst : IsStep 114 (.agg #[.int .i64 sh]) G st) (hfn : Fine G st)
    (b : Nat) (O : Nat → Prop) (M : Mem) (kind : Int) (pri : Nat) (val d0 d1 most : Int) (w : World) (h : MemAt w b O M) (hg : G M (Fr.of kind pri val d0 d1)) (hm : most ≤ 1000) (hck : M.clock < 4611686018427386000) :
    Calls Try.prog 13 #[.iface 57 (.agg #[.int .i64 sh]), .pointer (some ⟨b, 0, none⟩), .agg #[.int .i64 kind, .float .f64 pri, .int .i64 val, .int .i64 d0, .int .i64 d1], .int .i64 most] w (AEnd b O (alone st most.toNat M (Fr.of kind pri val d0 d1)) w) := by
  have hsf := run_store_flt (P := Try.prog)
  have hms : ∀ w, (method 279 57 (.agg #[.int .i64 sh]) "Step").run Try.prog w = .ok (114, (.agg #[.int .i64 sh])) w := fun w => by kernel_rfl
  go_enter Try.func13, Try.ntmps13
  go_wp2_with fail
  obtain ⟨W0, hW0, hb00, hsz00, _, hA00⟩ := two_new w [.int .i64 kind, .float .f64 pri, .int .i64 val, .int .i64 d0, .int .i64 d1] Ans.zero.l 38 48 0
  rw [show (w.alloc (.cells #[.int .i64 kind, .float .f64 pri, .int .i64 val, .int .i64 d0, .int .i64 d1] 38)).alloc (.cells #[.bool false, .float .f64 0, .int .i64 0, .int .i64 0] 48) = W0 from hW0]
  clear hW0
  obtain ⟨fb, hfb⟩ : ∃ fb, w.heap.size + 1 + 1 = fb := ⟨_, rfl⟩
  obtain ⟨ab, hab⟩ : ∃ ab, w.heap.size + 1 = ab := ⟨_, rfl⟩
  have hfr : BoxAt (W0.alloc (.cells #[.int .i64 kind, .float .f64 pri, .int .i64 val, .int .i64 d0, .int .i64 d1, .int .i64 0, .int .i64 0, .int .i64 0, .int .i64 0, .int .i64 0, .bool false, .int .u64 0, .int .i64 0, .slice none 0 0, .int .u64 0, .int .i64 0, .slice none 0 0] 85)) fb ((Fr.of kind pri val d0 d1).l none 0 none 0) := by
    have := BoxAt.new W0 ((Fr.of kind pri val d0 d1).l none 0 none 0) 85
    rw [hsz00, hfb] at this
    exact this
  have hb0 : Below w.heap.size w (W0.alloc (.cells #[.int .i64 kind, .float .f64 pri, .int .i64 val, .int .i64 d0, .int .i64 d1, .int .i64 0, .int .i64 0, .int .i64 0, .int .i64 0, .int .i64 0, .bool false, .int .u64 0, .int .i64 0, .slice none 0 0, .int .u64 0, .int .i64 0, .slice none 0 0] 85)) := hb00.alloc (by omega) _
  have hsz1 : (W0.alloc (.cells #[.int .i64 kind, .float .f64 pri, .int .i64 val, .int .i64 d0, .int .i64 d1, .int .i64 0, .int .i64 0, .int .i64 0, .int .i64 0, .int .i64 0, .bool false, .int .u64 0, .int .i64 0, .slice none 0 0, .int .u64 0, .int .i64 0, .slice none 0 0] 85)).heap.size = w.heap.size + 3 := by rw [World.size_alloc, hsz00]
  have hA0 := hA00.below ((Below.refl W0.heap.size W0).alloc (Nat.le_refl _) (.cells #[.int .i64 kind, .float .f64 pri, .int .i64 val, .int .i64 d0, .int .i64 d1, .int .i64 0, .int .i64 0, .int .i64 0, .int .i64 0, .int .i64 0, .bool false, .int .u64 0, .int .i64 0, .slice none 0 0, .int .u64 0, .int .i64 0, .slice none 0 0] 85))
  rw [hab] at hA0
  rw [hfb, hab]
  generalize W0.alloc (.cells #[.int .i64 kind, .float .f64 pri, .int .i64 val, .int .i64 d0, .int .i64 d1, .int .i64 0, .int .i64 0, .int .i64 0, .int .i64 0, .int .i64 0, .bool false, .int .u64 0, .int .i64 0, .slice none 0 0, .int .u64 0, .int .i64 0, .slice none 0 0] 85) = W1 at *
  have hM1 := h.below hb0
  have hF1 : FrAt W1 fb (fun k => k = fb) (Fr.of kind pri val d0 d1) := ⟨rfl, fun k e => by rw [e]; exact hfr.lt, none, 0, none, 0, hfr, SlAt.nil _ _, SlAt.nil _ _, (fun j hj => by obtain ⟨y, hy, _⟩ := hj; cases hy), (fun j hj => by obtain ⟨y, hy, _⟩ := hj; cases hy)⟩
  have hOf : ∀ k, O k → k < w.heap.size := h.lt
  have hLt := hidq (And.intro hfb (And.intro hab hsz1))
  have HA := hidq hA0
  have HB := hidq hb0
  have HG := hidq hg
  have HST := hidq hst
  have HFN := hidq hfn
  have HCK := hidq hck
  clear hfb hab hsz1 hA0 hb0 hb00 hsz00 hA00 hfr h hg hst hfn hck
  go_loopw [17] (fun s wr => ∃ (k : Nat) (Mk : Mem) (Fk : Fr) (Ok Pk : Nat → Prop), s = .int .i64 (k : Int) ∧ ((k : Int) ≤ most ∨ k = 0) ∧ MemAt wr b Ok Mk ∧ FrAt wr fb Pk Fk ∧ (∀ j, Ok j → ¬ Pk j) ∧ Grown O W1 wr Ok ∧ Grown (fun j => j = fb) W1 wr Pk ∧ But (fun j => O j ∨ j = fb) W1 wr ∧ G Mk Fk ∧ Mk.clock ≤ M.clock + k ∧ Hid (alone st most.toNat M (Fr.of kind pri val d0 d1) = alone st (most.toNat - k) Mk Fk)) (fun s _ => (most - intOf s).toNat)
  case atStart =>
    obtain ⟨hfb, hab, hz1⟩ := hLt.out
    exact ⟨0, M, _, O, _, rfl, .inr rfl, hM1, hF1, fun j hj e => by have := hOf _ hj; omega, Grown.refl _ _ _, Grown.refl _ _ _, But.refl _ _, HG.out, Nat.le_refl _, hidq rfl⟩
  case round =>
    obtain ⟨k, Mk, Fk, Ok, Pk, rfl, hk, hM, hF, hD, hGO, hGP, hB, hg, hck, hal⟩ := hrel
    obtain ⟨hfb, hab, hz1⟩ := hLt.out
    have hsz := hB.size
    have hnab : ¬ (O ab ∨ ab = fb) := by
      rintro (e | e)
      · have := hOf _ e; omega
      · omega
    have hAr := HA.out.but hB hnab
    have hck0 := HCK.out
    by_cases hlt : (k : Int) < most
    · obtain ⟨m, hm2⟩ : ∃ m, most.toNat - k = m + 1 := ⟨most.toNat - k - 1, by omega⟩
      have hS := hidq (HST.out wr b fb Ok Pk Mk Fk hM hF hD hg (by omega))
      have hon := HFN.out.on Mk Fk hg
      have hcl := HFN.out.clock Mk Fk
      have HAL := hidq (fun r (hr : st Mk Fk = r) => (show alone st most.toNat M (Fr.of kind pri val d0 d1) = if r.2.2.2 = true then (r.1, r.2.2.1, true) else alone st m r.1 r.2.1 from by rw [hal.out, hm2, ← hr]; rfl))
      generalize hr : st Mk Fk = r at *
      obtain ⟨M', F', A, d⟩ := r
      have HAL2 := hidq (HAL.out _ rfl)
      have HM2 := hidq hm2
      have HCLK := hidq (And.intro hck hcl)
      have HON0 := hidq hon
      have HE := hidq (And.intro hfb (And.intro hab hz1))
      clear hM hF hr HAL hal hm2 hck hcl hck0 hon hfb hab hz1 hg
      go_wp2_with fail
      refine hS.out.mono ?_
      rintro e w2 ⟨rfl, O2, P2, hM2, hF2, hD2, hGO2, hGP2, hB2⟩
      have hs2 := hB2.size
      obtain ⟨hfb, hab, hz1⟩ := HE.out
      have hOk : ∀ j, Ok j → j ≠ ab := fun j hj e => by
        rcases hGO j hj with q | q
        · have := hOf _ q; omega
        · omega
      have hPk : ∀ j, Pk j → j ≠ ab := fun j hj e => by
        rcases hGP j hj with q | q
        · omega
        · omega
      have hA2 := hAr.but hB2 (fun e => by
        rcases e with e | e
        · exact hOk _ e rfl
        · exact hPk _ e rfl)
      have hBall : But (fun j => O j ∨ j = fb) W1 w2 := hB.then hB2 (fun j hj e => by
        rcases e with e | e
        · rcases hGO j e with q | q
          · exact .inl q
          · omega
        · rcases hGP j e with q | q
          · exact .inr q
          · omega)
      have hGO' := hGO.trans hGO2 hsz hs2
      have hGP' := hGP.trans hGP2 hsz hs2
      obtain ⟨g0, x0⟩ := hA2.get 0 _ rfl
      obtain ⟨g1, x1⟩ := hA2.get 1 _ rfl
      obtain ⟨g2, x2⟩ := hA2.get 2 _ rfl
      obtain ⟨g3, x3⟩ := hA2.get 3 _ rfl
      have hal2 := hA2.lt
      obtain ⟨aok, api, av, an⟩ := A
      dsimp only [Ans.v] at *
      cases d
      · have hon2 := HON0.out rfl
        have FIN := hidq (fun w4 (h4 : But (fun j => j = w2.heap.size) w2 w4) => (show MemAt w4 b O2 M' ∧ FrAt w4 fb P2 F' ∧ Grown O W1 w4 O2 ∧ Grown (fun j => j = fb) W1 w4 P2 ∧ But (fun j => O j ∨ j = fb) W1 w4 from by
          have hs4 := h4.size
          refine ⟨hM2.but h4 (fun j hj e => by have := hM2.lt j hj; omega), hF2.but h4 (fun j hj e => by have := hF2.lt j hj; omega), ?_, ?_, hBall.then h4 (fun j hj e => by omega)⟩
          · intro j hj
            rcases hGO' j hj with q | q
            · exact .inl q
            · exact .inr ⟨q.1, by omega⟩
          · intro j hj
            rcases hGP' j hj with q | q
            · exact .inl q
            · exact .inr ⟨q.1, by omega⟩))
        have HON := hidq hon2
        have HD2 := hidq hD2
        clear hM2 hF2 hB2 hB hBall hon2 hA2 hGO hGP hGO2 hGP2 hGO' hGP' hD hD2 hS hAr g0 x0 g1 x1 g2 x2 g3 x3 hfb hab hz1
        go_wp2
        go_roundw
        case rel =>
          obtain ⟨e1, e2, e3, e4, e5⟩ := FIN.out _ ((But.refl _ w2).alloc _)
          refine ⟨k + 1, M', F', O2, P2, by go_num, .inl (by omega), e1, e2, HD2.out, e3, e4, e5, HON.out, by have := HCLK.out; omega, hidq ?_⟩
          rw [HAL2.out, show most.toNat - (k + 1) = m by have := HM2.out; omega]
          rfl
        case measure => simp [intOf]; omega
      · have HAL3 : alone st most.toNat M (Fr.of kind pri val d0 d1) = (M', ⟨aok, api, av, an⟩, true) := by rw [HAL2.out]; rfl
        have HAL4 := hidq HAL3
        have FIN := hidq (fun w4 (h4 : But (fun j => j = w2.heap.size ∨ j = ab) w2 w4) => (show AEnd b O (M', ⟨aok, api, av, an⟩, true) w (.returned (.tuple #[(⟨aok, api, av, an⟩ : Ans).v, .bool true])) w4 from by
          have hs4 := h4.size
          refine ⟨rfl, O2, hM2.but h4 (fun j hj e => ?_), ?_, ?_⟩
          · rcases e with e | e
            · have := hM2.lt j hj; omega
            · subst e
              rcases hGO' _ hj with q | q
              · have := hOf _ q; omega
              · omega
          · intro j hj
            rcases hGO' j hj with q | q
            · exact .inl q
            · exact .inr ⟨by omega, by omega⟩
          · refine ((But.of_below HB.out).then hBall (fun j hj e => ?_)).then h4 (fun j hj e => by omega)
            rcases e with e | e
            · exact e
            · omega))
        have GA := hidq (fun o => (setBox_box (⟨aok, api, av, an⟩ : Ans).s hA2).below ((Below.refl _ _).alloc (Nat.le_refl _) o))
        clear hM2 hF2 hB2 hB hBall HAL2 HAL3 hA2 hGO hGP hGO2 hGP2 hGO' hGP' hD hD2 hS hAr HCLK HM2 hfb hz1
        go_wp2
        exact ret_ans (A := ⟨aok, api, av, an⟩) Try.results13 (GA.out _) rfl rfl rfl (by
          rw [HAL4.out]
          exact FIN.out _ ((((((But.refl _ w2).set1 _ _ (.inr rfl) _).set1 _ _ (.inr rfl) _).set1 _ _ (.inr rfl) _).set1 _ _ (.inr rfl) _).alloc _))
    · have hdl : decide ((k : Int) < most) = false := decide_eq_false hlt
      have hm0 : most.toNat - k = 0 := by omega
      have HAL : Hid (alone st most.toNat M (Fr.of kind pri val d0 d1) = (Mk, Ans.zero, false)) := hidq (by rw [hal.out, hm0]; rfl)
      have FIN := hidq (fun w4 (h4 : But (fun j => j = ab) wr w4) => (show AEnd b O (Mk, Ans.zero, false) w (.returned (.tuple #[Ans.zero.v, .bool false])) w4 from by
          have hs4 := h4.size
          refine ⟨rfl, Ok, hM.but h4 (fun j hj e => ?_), ?_, ?_⟩
          · subst e
            rcases hGO _ hj with q | q
            · have := hOf _ q; omega
            · omega
          · intro j hj
            rcases hGO j hj with q | q
            · exact .inl q
            · exact .inr ⟨by omega, by omega⟩
          · refine ((But.of_below HB.out).then hB (fun j hj e => ?_)).then h4 (fun j hj e => by omega)
            rcases e with e | e
            · exact e
            · omega))
      have GA := hidq (setBox_box Ans.zero.s hAr)
      obtain ⟨g0, x0⟩ := hAr.get 0 _ rfl
      obtain ⟨g1, x1⟩ := hAr.get 1 _ rfl
      obtain ⟨g2, x2⟩ := hAr.get 2 _ rfl
      obtain ⟨g3, x3⟩ := hAr.get 3 _ rfl
      clear hM hF hD hGO hGP hB hg hck hal hfb hab hz1 hsz hnab hAr hck0 hm0
      go_wp2
      exact ret_ans (A := Ans.zero) Try.results13 GA.out rfl rfl rfl (by
        rw [HAL.out]
        exact FIN.out _ (((((But.refl (fun j => j = ab) wr).set1 _ _ rfl _).set1 _ _ rfl _).set1 _ _ rfl _).set1 _ _ rfl _))
end Go.Proofs.Ytclcmabohpoaiaa

namespace Go.Proofs.Ytclcmabohpoaiaa
open Go.RowKit

theorem rinto_any (d n : Int) (w : World) (hn : n ≤ 9223372036854775807) :
    Calls Try.prog 8 #[.int .i64 d, .int .i64 n] w fun e w' => e = .returned (.int .i64 (into d n)) ∧ w' = w := by
  by_cases h : n < 1
  · rw [into_lo h]
    go_enter Try.func8, Try.ntmps8
    go_wp2
    go_ret
    exact ⟨rfl, rfl⟩
  · rw [into_hi h]
    have h1 : decide (n < 1) = false := decide_eq_false h
    have hn0 : (n == 0) = false := by simp; omega
    have hn1 : 1 ≤ n := by omega
    by_cases hm : d.tmod n < 0
    · have e1 := tmod_emod_neg hn1 hm
      have e2 := Int.lt_tmod_of_pos d (show 0 < n by omega)
      have hw : wrap64 (d.tmod n + n) = d % n := by unfold wrap64; omega
      have HW : Hid (∀ _ : Unit, wrap64 (d.tmod n + n) = d % n) := fun _ => hw
      clear e1 hw e2
      go_enter Try.func8, Try.ntmps8
      go_wp2
      go_ret
      exact ⟨by rw [← HW ()]; rfl, rfl⟩
    · have e1 : d.tmod n = d % n := tmod_emod_nonneg hn1 (by omega)
      have HW : Hid (∀ _ : Unit, d.tmod n = d % n) := fun _ => e1
      have hm1 : decide (d.tmod n < 0) = false := decide_eq_false hm
      clear e1
      go_enter Try.func8, Try.ntmps8
      go_wp2
      go_ret
      exact ⟨by rw [← HW ()]; rfl, rfl⟩

/-- The reference's Legal at a kind that is no Net. -/
theorem rlegal_any (k p : Int) (w : World) (hk : 1 ≤ k ∧ k ≤ 3) : Calls Try.prog 19 #[.int .i64 k, .int .i64 p] w fun e w' => e = .returned (.int .i64 (legal k p)) ∧ w' = w := by
  have hk1 : decide (k < 1) = false := decide_eq_false (by omega)
  have hk2 : decide (4 < k) = false := decide_eq_false (by omega)
  have hk4 : (k == 4) = false := by simp; omega
  by_cases hp : p < 1
  · rw [legal_par (by omega) (by omega)]
    clear hk
    go_enter Try.func19, Try.ntmps19
    go_wp2
    go_ret
    exact ⟨rfl, rfl⟩
  · have hp1 : decide (p < 1) = false := decide_eq_false hp
    by_cases hq : 16 < p
    · rw [legal_par (by omega) (by omega)]
      clear hk hp
      go_enter Try.func19, Try.ntmps19
      go_wp2
      go_ret
      exact ⟨rfl, rfl⟩
    · have hq1 : decide (16 < p) = false := decide_eq_false hq
      rw [legal_ok (by omega) (by omega) (by omega)]
      clear hk hp hq
      go_enter Try.func19, Try.ntmps19
      go_wp2
      go_ret
      exact ⟨rfl, rfl⟩
end Go.Proofs.Ytclcmabohpoaiaa

namespace Go.Proofs.Ytclcmabohpoaiaa
open Go.RowKit Go.Sort

theorem run_equalIn_flt {P : Program} (d : Nat) (t : TypeId) (a b : Nat) (w : World) (h : P.underlying t = some (.float .f64)) : (Op.equalIn (d + 1) t (.float .f64 a) (.float .f64 b)).run P w = .ok (Op.floatEq .f64 a b) w := by
  simp [Op.equalIn, run_underlying h]

/-- What holds between two rounds. -/
def AwR (w : World) (sb mb i : Nat) (wr : World) : Prop := ∃ O : Nat → Prop, St w wr sb [.int .i64 2] mb O (awM i)

set_option maxRecDepth 20000 in
set_option maxHeartbeats 8000000 in
theorem awake9_any (w : World) : Calls Try.prog 17 #[] w fun e w' => e = .returned (.bool true) ∧ Below w.heap.size w w' := by
  have hN := knew_any 2 w
  rw [show knewV 2 = .agg #[.int .i64 2] from if_pos (by decide), show legal 2 2 = 0 by decide] at hN
  have hef := fun d a b w => run_equalIn_flt (P := Try.prog) d 33 a b w Try.underlying33
  have hq0 : Op.floatEq .f64 0 0 = true := by decide
  have hsf := run_store_flt (P := Try.prog)
  have hSl := fun W => kslot_any 2 3 1 W (by decide) (by decide) (by decide)
  rw [show kslot 2 3 1 = 9 by decide] at hSl
  have hF1 := fun W => kfits_any 2 (-1) W (by decide)
  rw [show kfits 2 (-1) = false by decide] at hF1
  have hF2 := fun W => kfits_any 2 498 W (by decide)
  rw [show kfits 2 498 = true by decide] at hF2
  go_enter Try.func17, Try.ntmps17
  go_wp2_with fail
  refine hN.mono ?_
  rintro e w1 ⟨rfl, hb1⟩
  clear hN
  obtain ⟨sb, hsb⟩ : ∃ sb, w1.heap.size = sb := ⟨_, rfl⟩
  obtain ⟨W1, hW1', hbW, hsW, hB1⟩ := one_new w1 [.int .i64 2] 57
  have hW1 : w1.alloc (.cells #[.int .i64 2] 57) = W1 := hW1'
  rw [hsb] at hB1 hsW
  have H1 := hidq (And.intro hB1 (And.intro (hb1.trans (hbW.mono hb1.size)) (And.intro hb1.size (And.intro hsb hsW))))
  clear hB1 hbW hsW hb1 hW1'
  go_wp2_with fail
  refine (new5_any _).mono ?_
  rintro e w2 ⟨rfl, hM2, hb2⟩
  obtain ⟨mb, hmb⟩ : ∃ mb, W1.heap.size = mb := ⟨_, rfl⟩
  rw [hmb] at hM2 ⊢
  obtain ⟨hB1, hbw, hs1, _, hsW⟩ := H1.out
  have HT0 := hidq (show AwR w sb mb 0 w2 from ⟨_, hM2, fun k e => by omega, hB1.below hb2, hbw.trans (hb2.mono hbw.size)⟩)
  clear hB1 hbw hs1 hsW hM2 hb2 H1 hmb hW1 hsb
  go_wp2_with fail
  go_loopw [14] (fun s14 wr => ∃ i : Nat, s14 = .int .i64 (i : Int) ∧ i ≤ 3 ∧ Hid (AwR w sb mb i wr)) (fun s14 _ => 3 - (intOf s14).toNat)
  case atStart => exact ⟨0, rfl, Nat.zero_le _, HT0⟩
  case round =>
    obtain ⟨i, rfl, hi, hT⟩ := hrel
    clear HT0
    obtain ⟨O, hS⟩ := hT.out
    have hok := awM_ok i
    have r0 := (hS.box.get 0 _ rfl).1
    have hsl := hS.box.lt
    have HS := hidq hS
    by_cases hlt : i < 3
    · have hltI : (i : Int) < 3 := by omega
      have hal := aloneK_any 2 (kstep_is 2 (by decide)) (kFine 2 (by decide)) mb O (awM i) 3 0 ((i : Int) + 1) 0 0 20 wr hS.mem (kGood.start (by decide) 3 0 _ 0 0 (.inl rfl) (by decide) hok.1) (by decide) (by omega)
      have HAL := hidq hal
      clear hS hT hal hok
      go_wp2_with fail
      refine HAL.out.mono ?_
      rintro e w3 ⟨rfl, O3, hM3, hG3, hB3⟩
      have HN := hidq (show AwR w sb mb (i + 1) w3 from ⟨O3, HS.out.call hM3 hG3 hB3⟩)
      clear hM3 hG3 hB3 HAL HS r0 hsl
      go_wp2_with fail
      go_roundw
      case rel => exact ⟨i + 1, by go_num, by omega, HN⟩
      case measure => simp [intOf]; omega
    · have hi3 : i = 3 := by omega
      subst hi3
      have hal := aloneK_any 2 (kstep_is 2 (by decide)) (kFine 2 (by decide)) mb O (awM 3) 4 0 0 1 0 20 wr hS.mem (kGood.start (by decide) 4 0 _ 1 0 (.inr rfl) (by decide) hok.1) (by decide) (by omega)
      have hdq := awM_deq
      rw [show (20 : Int).toNat = 20 from rfl] at hal
      generalize alone (kStep 2) 20 (awM 3) (Fr.of 4 0 0 1 0) = r at hal hdq
      obtain ⟨M9, A9⟩ := r
      have hA9 : A9 = (⟨true, 0, 2, 0⟩, true) := hdq
      subst hA9
      have HAL := hidq hal
      clear hS hT hal hok hdq
      go_wp2_with fail
      refine HAL.out.mono ?_
      rintro e w3 ⟨rfl, O3, hM3, hG3, hB3⟩
      have HS3 := hidq ((HS.out.call hM3 hG3 hB3).alloc (.cells #[.bool true, .float .f64 0, .int .i64 2, .int .i64 0] 48))
      clear hM3 hG3 hB3 HAL HS r0 hsl
      have r0 := (HS3.out.box.get 0 _ rfl).1
      have hsl := HS3.out.box.lt
      go_wp2_with fail
      refine (hSl _).mono ?_
      rintro e w4 ⟨rfl, hb4⟩
      have HS4 := hidq (HS3.out.below hb4)
      clear hb4 HS3 r0 hsl hSl
      have r0 := (HS4.out.box.get 0 _ rfl).1
      have hsl := HS4.out.box.lt
      go_wp2_with fail
      refine (hF1 _).mono ?_
      rintro e w5 ⟨rfl, hb5⟩
      have HS5 := hidq (HS4.out.below hb5)
      clear hb5 HS4 r0 hsl hF1
      have r0 := (HS5.out.box.get 0 _ rfl).1
      have hsl := HS5.out.box.lt
      go_wp2_with fail
      refine (hF2 _).mono ?_
      rintro e w6 ⟨rfl, hb6⟩
      have HB := hidq (HS5.out.below hb6).low
      clear hb6 HS5 r0 hsl hF2
      go_wp2
      go_ret
      exact ⟨rfl, HB.out⟩
end Go.Proofs.Ytclcmabohpoaiaa

namespace Go.Proofs.Ytclcmabohpoaiaa
open Go.RowKit Go.Sort

/-- What holds between two rounds. -/
def KFR (w : World) (sb mb k i : Nat) (wr : World) : Prop :=
  ∃ (O : Nat → Prop) (M : Mem), St w wr sb [.int .i64 (k : Int)] mb O M ∧ KM M ∧ M.clock ≤ 100 * i ∧ (i ≤ 998 / k * k → FI k i M)

set_option maxRecDepth 20000 in
set_option maxHeartbeats 8000000 in
theorem kfifoFull_any (a0 a1 : Int) (w : World) :
    Calls Try.prog 5 #[.int .i64 a0, .int .i64 a1] w fun e w' => e = .returned (.bool true) ∧ Below w.heap.size w w' := by
  have hA := awake9_any w
  have hN := fun W => knew_any a0 W
  have hL := fun W => rlegal_any 2 a0 W (by decide)
  have hsf := run_store_flt (P := Try.prog)
  by_cases hp : 1 ≤ a0 ∧ a0 ≤ 16
  · obtain ⟨k, rfl⟩ : ∃ k : Nat, a0 = (k : Int) := ⟨a0.toNat, by omega⟩
    have hk : 1 ≤ k ∧ k ≤ 16 := by omega
    have hleg : legal 2 (k : Int) = 0 := legal_ok (by decide) hp (by omega)
    rw [hleg] at hL
    have hN2 : ∀ W, Calls Try.prog 18 #[.int .i64 (k : Int)] W fun e w' => e = .returned (.tuple #[.agg #[.int .i64 (k : Int)], .int .i64 0]) ∧ Below W.heap.size W w' := fun W => by
      have := hN W
      rw [hleg, show knewV (k : Int) = .agg #[.int .i64 (k : Int)] from if_pos hleg] at this
      exact this
    have hFt := fun W => kfits_any (k : Int) a1 W (by omega)
    rw [fits_iff hk.1] at hFt
    obtain ⟨q, hq⟩ : ∃ q, 998 / k = q := ⟨_, rfl⟩
    rw [hq] at hFt
    have hqb : q ≤ 998 := by rw [← hq]; exact Nat.div_le_self _ _
    have hqI : (998 : Int).tdiv (k : Int) = (q : Int) := by rw [← hq]; rfl
    obtain ⟨most, hmost⟩ : ∃ most, q * k = most := ⟨_, rfl⟩
    have hmk : (q : Int) * (k : Int) = (most : Int) := by rw [← hmost, Int.natCast_mul]
    have hmb2 : most ≤ 998 := by rw [← hmost, ← hq]; exact Nat.div_mul_le_self _ _
    have hdiv : (most : Int).tdiv (k : Int) = (q : Int) := by
      rw [← hmk, Int.mul_tdiv_cancel _ (by omega)]
    have HM := hidq (show 998 / k * k = most by rw [hq]; exact hmost)
    clear hN hleg hq hmost
    go_enter Try.func5, Try.ntmps5
    go_wp2_with fail
    refine hA.mono ?_
    rintro e w1 ⟨rfl, hb1⟩
    clear hA
    go_wp2_with fail
    refine (hN2 _).mono ?_
    rintro e w2 ⟨rfl, hb2⟩
    clear hN2
    obtain ⟨sb, hsb⟩ : ∃ sb, w2.heap.size = sb := ⟨_, rfl⟩
    obtain ⟨W2, hW2', hbW, hsW, hB2⟩ := one_new w2 [.int .i64 (k : Int)] 57
    have hW2 : w2.alloc (.cells #[.int .i64 (k : Int)] 57) = W2 := hW2'
    rw [hsb] at hB2 hsW
    have H2 := hidq (And.intro hB2 (And.intro ((hb1.trans (hb2.mono hb1.size)).trans (hbW.mono (by have := hb1.size; have := hb2.size; omega))) (And.intro (Nat.le_trans hb1.size hb2.size) hsW)))
    clear hB2 hbW hsW hb1 hb2 hW2'
    go_wp2_with fail
    refine (hL _).mono ?_
    rintro e w3 ⟨rfl, hw3⟩
    subst w3
    clear hL
    go_wp2_with fail
    refine (new5_any _).mono ?_
    rintro e w4 ⟨rfl, hM4, hb4⟩
    obtain ⟨mb, hmb⟩ : ∃ mb, W2.heap.size = mb := ⟨_, rfl⟩
    rw [hmb] at hM4 ⊢
    obtain ⟨hB2, hbw, hs2, hsW⟩ := H2.out
    have hS4 : St w w4 sb [.int .i64 (k : Int)] mb (fun k => k = mb) Mem.empty := ⟨hM4, fun k e => by omega, hB2.below hb4, hbw.trans (hb4.mono hbw.size)⟩
    have r0 := (hS4.box.get 0 _ rfl).1
    have hsl := hS4.box.lt
    have HS4 := hidq hS4
    have hk1 : (1 : Int) ≤ (k : Int) := by omega
    have hk16 : (k : Int) ≤ 16 := by omega
    have hkz : ¬ (k : Int) = 0 := by omega
    have hkz2 : ((k : Int) == 0) = false := by simp; omega
    clear hB2 hbw hs2 hsW hM4 hb4 H2 hmb hW2 hsb hS4
    go_wp2_with fail
    refine (hFt _).mono ?_
    rintro e w5 ⟨rfl, hb5⟩
    have HS5 := hidq (HS4.out.below hb5)
    clear hb5 HS4 r0 hsl hFt
    by_cases h0 : 0 ≤ a1
    · rw [decide_eq_true h0]
      obtain ⟨z, hz⟩ : ∃ z, decide (a1 < (q : Int)) = z := ⟨_, rfl⟩
      rw [hz, Bool.true_and]
      cases z
      · have hz2 : ¬ a1 < (q : Int) := of_decide_eq_false hz
        by_cases hk8 : k < 8
        · have hk8I : (k : Int) < 8 := by omega
          have HB := hidq HS5.out.low
          clear HS5
          go_wp2
          go_ret
          exact ⟨rfl, HB.out⟩
        · have hk8d : decide ((k : Int) < 8) = false := decide_eq_false (by omega)
          have hk8d2 : decide (k < 8) = false := decide_eq_false hk8
          have HT0 := hidq (show KFR w sb mb k 0 w5 from ⟨_, _, HS5.out, KM.empty, Nat.le_refl _, fun _ => FI.start hk⟩)
          have HK := hidq hk
          clear HS5 hk8
          go_wp2_with fail
          clear hk8d hk8d2 hkz hkz2 hqI hmk hdiv
          go_loopw [9] (fun s9 wr => ∃ i : Nat, s9 = .int .i64 (i : Int) ∧ i ≤ most + 1 ∧ Hid (KFR w sb mb k i wr)) (fun s9 _ => most + 1 - (intOf s9).toNat)
          case atStart => exact ⟨0, rfl, Nat.zero_le _, HT0⟩
          case round =>
            obtain ⟨i, rfl, hi, hT⟩ := hrel
            clear HT0
            obtain ⟨O, M, hS, hkm, hck, hFI⟩ := hT.out
            by_cases hlt : i ≤ most
            · have hltI : (i : Int) ≤ (most : Int) := by omega
              have hFI2 := hFI (by rw [HM.out]; exact hlt)
              have r0 := (hS.box.get 0 _ rfl).1
              have hsl := hS.box.lt
              have hal := aloneK_any (k : Int) (kstep_is (k : Int) (by omega)) (kFine (k : Int) (by omega)) mb O M 3 0 0 (i : Int) 0 100 wr hS.mem (kGood.start (by omega) 3 0 _ _ 0 (.inl rfl) (by decide) hkm) (by decide) (by omega)
              rw [show (100 : Int).toNat = 100 from rfl] at hal
              have hcl := alone_clock (kFine (k : Int) (by omega)) 100 M (Fr.of 3 0 0 (i : Int) 0)
              have HS := hidq hS
              rcases FI.next (i : Int) 0 HK.out hFI2 with ⟨hlm, M', ha, hFI', hkm'⟩ | ⟨hlm, M', ha, hkm'⟩
              · rw [ha] at hal hcl
                rw [HM.out] at hlm
                have hlI : (i : Int) < (most : Int) := by omega
                have HAL := hidq hal
                have HN := hidq (And.intro hFI' (And.intro hkm' (show M'.clock ≤ 100 * (i + 1) by dsimp only at hcl; omega)))
                clear hS hT hal hFI hFI2 ha hFI' hkm' hcl hck hkm
                go_wp2_with fail
                refine HAL.out.mono ?_
                rintro e w6 ⟨rfl, O6, hM6, hG6, hB6⟩
                have HS6 := hidq ((HS.out.call hM6 hG6 hB6).alloc (.cells #[.bool true, .float .f64 0, .int .i64 0, .int .i64 0] 48))
                have HFIN := hidq (show KFR w sb mb k (i + 1) _ from ⟨_, _, HS6.out, HN.out.2.1, HN.out.2.2, fun _ => HN.out.1⟩)
                clear hM6 hG6 hB6 HAL HS HS6 HN r0 hsl
                go_wp2
                go_roundw
                case rel => exact ⟨i + 1, by go_num, by omega, HFIN⟩
                case measure => simp [intOf]; omega
              · rw [ha] at hal hcl
                rw [HM.out] at hlm
                have hlI : ¬ (i : Int) < (most : Int) := by omega
                have hlD : decide ((i : Int) < (most : Int)) = false := decide_eq_false hlI
                have hlD2 : decide (i < most) = false := decide_eq_false (by omega)
                have HAL := hidq hal
                have HN := hidq (And.intro hlm (And.intro hkm' (show M'.clock ≤ 100 * (i + 1) by dsimp only at hcl; omega)))
                clear hS hT hal hFI hFI2 ha hkm' hcl hck hkm hlm
                go_wp2_with fail
                refine HAL.out.mono ?_
                rintro e w6 ⟨rfl, O6, hM6, hG6, hB6⟩
                have HS6 := hidq ((HS.out.call hM6 hG6 hB6).alloc (.cells #[.bool false, .float .f64 0, .int .i64 0, .int .i64 0] 48))
                have HFIN := hidq (show KFR w sb mb k (i + 1) _ from ⟨_, _, HS6.out, HN.out.2.1, HN.out.2.2, fun h => by rw [HM.out] at h; have := HN.out.1; omega⟩)
                clear hM6 hG6 hB6 HAL HS HS6 HN r0 hsl
                go_wp2
                go_roundw
                case rel => exact ⟨i + 1, by go_num, by omega, HFIN⟩
                case measure => simp [intOf]; omega
            · have hd1 : decide ((i : Int) ≤ (most : Int)) = false := decide_eq_false (by omega)
              have hd2 : decide (i ≤ most) = false := decide_eq_false hlt
              have HB := hidq hS.low
              clear hS hT hFI hkm hck
              go_wp2
              go_ret
              exact ⟨rfl, HB.out⟩
      · have hz2 : a1 < (q : Int) := of_decide_eq_true hz
        by_cases hk8 : k < 8
        · have hk8I : (k : Int) < 8 := by omega
          have HB := hidq HS5.out.low
          clear HS5
          go_wp2
          go_ret
          exact ⟨rfl, HB.out⟩
        · have hk8d : decide ((k : Int) < 8) = false := decide_eq_false (by omega)
          have hk8d2 : decide (k < 8) = false := decide_eq_false hk8
          have HT0 := hidq (show KFR w sb mb k 0 w5 from ⟨_, _, HS5.out, KM.empty, Nat.le_refl _, fun _ => FI.start hk⟩)
          have HK := hidq hk
          clear HS5 hk8
          go_wp2_with fail
          clear hk8d hk8d2 hkz hkz2 hqI hmk hdiv
          go_loopw [9] (fun s9 wr => ∃ i : Nat, s9 = .int .i64 (i : Int) ∧ i ≤ most + 1 ∧ Hid (KFR w sb mb k i wr)) (fun s9 _ => most + 1 - (intOf s9).toNat)
          case atStart => exact ⟨0, rfl, Nat.zero_le _, HT0⟩
          case round =>
            obtain ⟨i, rfl, hi, hT⟩ := hrel
            clear HT0
            obtain ⟨O, M, hS, hkm, hck, hFI⟩ := hT.out
            by_cases hlt : i ≤ most
            · have hltI : (i : Int) ≤ (most : Int) := by omega
              have hFI2 := hFI (by rw [HM.out]; exact hlt)
              have r0 := (hS.box.get 0 _ rfl).1
              have hsl := hS.box.lt
              have hal := aloneK_any (k : Int) (kstep_is (k : Int) (by omega)) (kFine (k : Int) (by omega)) mb O M 3 0 0 (i : Int) 0 100 wr hS.mem (kGood.start (by omega) 3 0 _ _ 0 (.inl rfl) (by decide) hkm) (by decide) (by omega)
              rw [show (100 : Int).toNat = 100 from rfl] at hal
              have hcl := alone_clock (kFine (k : Int) (by omega)) 100 M (Fr.of 3 0 0 (i : Int) 0)
              have HS := hidq hS
              rcases FI.next (i : Int) 0 HK.out hFI2 with ⟨hlm, M', ha, hFI', hkm'⟩ | ⟨hlm, M', ha, hkm'⟩
              · rw [ha] at hal hcl
                rw [HM.out] at hlm
                have hlI : (i : Int) < (most : Int) := by omega
                have HAL := hidq hal
                have HN := hidq (And.intro hFI' (And.intro hkm' (show M'.clock ≤ 100 * (i + 1) by dsimp only at hcl; omega)))
                clear hS hT hal hFI hFI2 ha hFI' hkm' hcl hck hkm
                go_wp2_with fail
                refine HAL.out.mono ?_
                rintro e w6 ⟨rfl, O6, hM6, hG6, hB6⟩
                have HS6 := hidq ((HS.out.call hM6 hG6 hB6).alloc (.cells #[.bool true, .float .f64 0, .int .i64 0, .int .i64 0] 48))
                have HFIN := hidq (show KFR w sb mb k (i + 1) _ from ⟨_, _, HS6.out, HN.out.2.1, HN.out.2.2, fun _ => HN.out.1⟩)
                clear hM6 hG6 hB6 HAL HS HS6 HN r0 hsl
                go_wp2
                go_roundw
                case rel => exact ⟨i + 1, by go_num, by omega, HFIN⟩
                case measure => simp [intOf]; omega
              · rw [ha] at hal hcl
                rw [HM.out] at hlm
                have hlI : ¬ (i : Int) < (most : Int) := by omega
                have hlD : decide ((i : Int) < (most : Int)) = false := decide_eq_false hlI
                have hlD2 : decide (i < most) = false := decide_eq_false (by omega)
                have HAL := hidq hal
                have HN := hidq (And.intro hlm (And.intro hkm' (show M'.clock ≤ 100 * (i + 1) by dsimp only at hcl; omega)))
                clear hS hT hal hFI hFI2 ha hkm' hcl hck hkm hlm
                go_wp2_with fail
                refine HAL.out.mono ?_
                rintro e w6 ⟨rfl, O6, hM6, hG6, hB6⟩
                have HS6 := hidq ((HS.out.call hM6 hG6 hB6).alloc (.cells #[.bool false, .float .f64 0, .int .i64 0, .int .i64 0] 48))
                have HFIN := hidq (show KFR w sb mb k (i + 1) _ from ⟨_, _, HS6.out, HN.out.2.1, HN.out.2.2, fun h => by rw [HM.out] at h; have := HN.out.1; omega⟩)
                clear hM6 hG6 hB6 HAL HS HS6 HN r0 hsl
                go_wp2
                go_roundw
                case rel => exact ⟨i + 1, by go_num, by omega, HFIN⟩
                case measure => simp [intOf]; omega
            · have hd1 : decide ((i : Int) ≤ (most : Int)) = false := decide_eq_false (by omega)
              have hd2 : decide (i ≤ most) = false := decide_eq_false hlt
              have HB := hidq hS.low
              clear hS hT hFI hkm hck
              go_wp2
              go_ret
              exact ⟨rfl, HB.out⟩
    · rw [decide_eq_false h0, Bool.false_and]
      have h0d : decide (0 ≤ a1) = false := decide_eq_false h0
      by_cases hk8 : k < 8
      · have hk8I : (k : Int) < 8 := by omega
        have HB := hidq HS5.out.low
        clear HS5
        go_wp2
        go_ret
        exact ⟨rfl, HB.out⟩
      · have hk8d : decide ((k : Int) < 8) = false := decide_eq_false (by omega)
        have hk8d2 : decide (k < 8) = false := decide_eq_false hk8
        have HT0 := hidq (show KFR w sb mb k 0 w5 from ⟨_, _, HS5.out, KM.empty, Nat.le_refl _, fun _ => FI.start hk⟩)
        have HK := hidq hk
        clear HS5 hk8
        go_wp2_with fail
        clear hk8d hk8d2 hkz hkz2 hqI hmk hdiv
        go_loopw [9] (fun s9 wr => ∃ i : Nat, s9 = .int .i64 (i : Int) ∧ i ≤ most + 1 ∧ Hid (KFR w sb mb k i wr)) (fun s9 _ => most + 1 - (intOf s9).toNat)
        case atStart => exact ⟨0, rfl, Nat.zero_le _, HT0⟩
        case round =>
          obtain ⟨i, rfl, hi, hT⟩ := hrel
          clear HT0
          obtain ⟨O, M, hS, hkm, hck, hFI⟩ := hT.out
          by_cases hlt : i ≤ most
          · have hltI : (i : Int) ≤ (most : Int) := by omega
            have hFI2 := hFI (by rw [HM.out]; exact hlt)
            have r0 := (hS.box.get 0 _ rfl).1
            have hsl := hS.box.lt
            have hal := aloneK_any (k : Int) (kstep_is (k : Int) (by omega)) (kFine (k : Int) (by omega)) mb O M 3 0 0 (i : Int) 0 100 wr hS.mem (kGood.start (by omega) 3 0 _ _ 0 (.inl rfl) (by decide) hkm) (by decide) (by omega)
            rw [show (100 : Int).toNat = 100 from rfl] at hal
            have hcl := alone_clock (kFine (k : Int) (by omega)) 100 M (Fr.of 3 0 0 (i : Int) 0)
            have HS := hidq hS
            rcases FI.next (i : Int) 0 HK.out hFI2 with ⟨hlm, M', ha, hFI', hkm'⟩ | ⟨hlm, M', ha, hkm'⟩
            · rw [ha] at hal hcl
              rw [HM.out] at hlm
              have hlI : (i : Int) < (most : Int) := by omega
              have HAL := hidq hal
              have HN := hidq (And.intro hFI' (And.intro hkm' (show M'.clock ≤ 100 * (i + 1) by dsimp only at hcl; omega)))
              clear hS hT hal hFI hFI2 ha hFI' hkm' hcl hck hkm
              go_wp2_with fail
              refine HAL.out.mono ?_
              rintro e w6 ⟨rfl, O6, hM6, hG6, hB6⟩
              have HS6 := hidq ((HS.out.call hM6 hG6 hB6).alloc (.cells #[.bool true, .float .f64 0, .int .i64 0, .int .i64 0] 48))
              have HFIN := hidq (show KFR w sb mb k (i + 1) _ from ⟨_, _, HS6.out, HN.out.2.1, HN.out.2.2, fun _ => HN.out.1⟩)
              clear hM6 hG6 hB6 HAL HS HS6 HN r0 hsl
              go_wp2
              go_roundw
              case rel => exact ⟨i + 1, by go_num, by omega, HFIN⟩
              case measure => simp [intOf]; omega
            · rw [ha] at hal hcl
              rw [HM.out] at hlm
              have hlI : ¬ (i : Int) < (most : Int) := by omega
              have hlD : decide ((i : Int) < (most : Int)) = false := decide_eq_false hlI
              have hlD2 : decide (i < most) = false := decide_eq_false (by omega)
              have HAL := hidq hal
              have HN := hidq (And.intro hlm (And.intro hkm' (show M'.clock ≤ 100 * (i + 1) by dsimp only at hcl; omega)))
              clear hS hT hal hFI hFI2 ha hkm' hcl hck hkm hlm
              go_wp2_with fail
              refine HAL.out.mono ?_
              rintro e w6 ⟨rfl, O6, hM6, hG6, hB6⟩
              have HS6 := hidq ((HS.out.call hM6 hG6 hB6).alloc (.cells #[.bool false, .float .f64 0, .int .i64 0, .int .i64 0] 48))
              have HFIN := hidq (show KFR w sb mb k (i + 1) _ from ⟨_, _, HS6.out, HN.out.2.1, HN.out.2.2, fun h => by rw [HM.out] at h; have := HN.out.1; omega⟩)
              clear hM6 hG6 hB6 HAL HS HS6 HN r0 hsl
              go_wp2
              go_roundw
              case rel => exact ⟨i + 1, by go_num, by omega, HFIN⟩
              case measure => simp [intOf]; omega
          · have hd1 : decide ((i : Int) ≤ (most : Int)) = false := decide_eq_false (by omega)
            have hd2 : decide (i ≤ most) = false := decide_eq_false hlt
            have HB := hidq hS.low
            clear hS hT hFI hkm hck
            go_wp2
            go_ret
            exact ⟨rfl, HB.out⟩
  · have hleg : legal 2 a0 = 5 := legal_par (by decide) hp
    rw [hleg] at hL
    have hN2 : ∀ W, Calls Try.prog 18 #[.int .i64 a0] W fun e w' => e = .returned (.tuple #[.agg #[.int .i64 0], .int .i64 5]) ∧ Below W.heap.size W w' := fun W => by
      have := hN W
      rw [hleg, show knewV a0 = .agg #[.int .i64 0] from if_neg (by rw [hleg]; decide)] at this
      exact this
    clear hN hleg hp
    go_enter Try.func5, Try.ntmps5
    go_wp2_with fail
    refine hA.mono ?_
    rintro e w1 ⟨rfl, hb1⟩
    clear hA
    go_wp2_with fail
    refine (hN2 _).mono ?_
    rintro e w2 ⟨rfl, hb2⟩
    have hb02 := hb1.trans (hb2.mono hb1.size)
    have HF := hidq (fun o => hb02.alloc (o := o) (by have := hb1.size; have := hb2.size; omega))
    clear hb1 hb2 hb02 hN2
    go_wp2_with fail
    refine (hL _).mono ?_
    rintro e w3 ⟨rfl, hw3⟩
    subst hw3
    go_wp2
    go_ret
    exact ⟨rfl, HF.out _⟩
end Go.Proofs.Ytclcmabohpoaiaa
