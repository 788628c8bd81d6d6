/-
  Layer 13: the four machines as kits.
  Layer 13: two engines in one world, apart; what a step answers.
  append, of anything, of nothing too.
  Layer 12: the numbers of so many cells together: contract.
  Layer 12: the items of all shards, in order: contract.
  Layer 12: the items of all slots that are full, by their versions: contract.
  slices.SortFunc at this program: a contract of the library, applied.
  Layer 12: cells in the order of their versions, by the library's slices.SortFunc: contract.
  Layer 5: how many cells, the clock: contracts.
  Layer 12: the items of all slots that are full, by their versions: contract.
  Layer 12: how many went out of a Net: contract.
  Layer 12: what a structure holds: contract.
  A region that draws its order in which calls are made and what they answer goes into a new box: which box it is is carried on as a ghost.
  Layer 13: what an engine holds: contract.
  Layer 13: what an engine tells of itself; an engine of no kind: contracts.
-/
import Derived.Test.YtbcmilfajeanbaaGreatRegionAll
import Derived.Test.YtbcmilfajeanbaaGreatEnPickKAll
import Derived.Test.YtbcmilfajeanbaaGreatWirePl0All
import Derived.Test.YtbcmilfajeanbaaGreatPileQAll
import Derived.Test.YtbcmilfajeanbaaGreatKf9aAll
import Derived.Test.YtbcmilfajeanbaaGreatKf9iAll
import Derived.Test.YtbcmilfajeanbaaGreatNetNewAAll
import Derived.Test.YtbcmilfajeanbaaGreatOpIn6All
import Derived.Test.YtbcmilfajeanbaaGreatFlat4All
import Derived.Test.YtbcmilfajeanbaaGreatAll4All
import Derived.Shelf.SlSortCmp.NoneTotal
import Derived.Test.YtbcmilfajeanbaaGreatProg
import Derived.Test.YtbcmilfajeanbaaGreatFits5All
import Derived.Test.YtbcmilfajeanbaaGreatKNew9All
namespace Go.Proofs.YtbcmilfajeanbaaGreat
open Go.RowKit Go.Sort

/-- A step writes at most one cell. -/
def Wr1 (M M' : Mem) : Prop := M' = M ∨ ∃ i v n L, M' = M.write i v n L
theorem Wr1.clk {M M' : Mem} (h : Wr1 M M') : M.clock ≤ M'.clock ∧ M'.clock ≤ M.clock + 1 := by
  rcases h with rfl | ⟨i, v, n, L, rfl⟩
  · exact ⟨Nat.le_refl _, Nat.le_succ _⟩
  · rcases write_as (M := M) (i := i) (v := v) (x := n) (L := L) with ⟨_, h, _⟩ | ⟨_, h⟩
    · rw [h]; exact ⟨Nat.le_succ _, Nat.le_refl _⟩
    · rw [h]; exact ⟨Nat.le_refl _, Nat.le_succ _⟩
theorem tStep_wr (sh : Int) (M : Mem) (F : Fr) : Wr1 M (tStep sh M F).1 := by
  unfold tStep
  split
  · split
    · exact .inl rfl
    · exact .inr ⟨_, _, _, _, rfl⟩
  · unfold sumR; split <;> exact .inl rfl
theorem mStep_wr (sh : Int) (M : Mem) (F : Fr) : Wr1 M (mStep sh M F).1 := by
  unfold mStep
  split
  · unfold insS
    split
    · split <;> exact .inl rfl
    · exact .inr ⟨_, _, _, _, rfl⟩
  · unfold remS
    split
    · exact .inl rfl
    · split
      · split <;> exact .inl rfl
      · split <;> exact .inr ⟨_, _, _, _, rfl⟩
theorem kStep_wr (k : Int) (M : Mem) (F : Fr) : Wr1 M (kStep k M F).1 := by
  unfold kStep
  split
  · unfold kEnq; split
    · exact .inl rfl
    · split
      · exact .inl rfl
      · split
        · exact .inr ⟨_, _, _, _, rfl⟩
        · exact .inr ⟨_, _, _, _, rfl⟩
  · unfold kDeq; split
    · exact .inl rfl
    · split
      · exact .inl rfl
      · split
        · exact .inl rfl
        · split
          · exact .inr ⟨_, _, _, _, rfl⟩
          · exact .inr ⟨_, _, _, _, rfl⟩

/-- The versions: no more than there were writes, no two the same; what says that it is full was written. -/
def VOk (M : Mem) : Prop := (∀ i, 0 ≤ (M.cell i).ver ∧ (M.cell i).ver ≤ (M.clock : Int)) ∧ (∀ i j, (M.cell i).ver = (M.cell j).ver → ¬ (M.cell i).ver = 0 → i = j) ∧ ∀ i, ¬ (M.cell i).n = 0 → ¬ (M.cell i).ver = 0
theorem VOk.empty : VOk Mem.empty := ⟨fun _ => ⟨Int.le_refl _, Int.le_refl _⟩, fun _ _ _ h => absurd rfl h, fun _ h => absurd rfl h⟩
theorem VOk.put {M : Mem} (h : VOk M) (i : Nat) (n : Int) (L : List It) : VOk (M.put i n L) := by
  obtain ⟨h1, h2, h3⟩ := h
  have hc : ∀ j, ((M.put i n L).cell j).ver = if j = i then ((M.clock + 1 : Nat) : Int) else (M.cell j).ver := fun j => by
    show (if j = i then (⟨_, _, _⟩ : CV) else M.cell j).ver = _
    split <;> rfl
  refine ⟨fun j => ?_, fun j j' e h0 => ?_, fun j hj => ?_⟩
  · rw [hc]
    show _ ∧ _ ≤ ((M.clock + 1 : Nat) : Int)
    have := h1 j
    split <;> omega
  · rw [hc, hc] at e
    rw [hc] at h0
    have a := h1 j
    have b := h1 j'
    by_cases q : j = i <;> by_cases q' : j' = i
    · omega
    · rw [if_pos q, if_neg q'] at e; omega
    · rw [if_neg q, if_pos q'] at e; omega
    · rw [if_neg q, if_neg q'] at e
      rw [if_neg q] at h0
      exact h2 j j' e h0
  · rw [hc]
    by_cases q : j = i
    · rw [if_pos q]; omega
    · rw [if_neg q]
      refine h3 j ?_
      have : ((M.put i n L).cell j).n = (M.cell j).n := by
        show (if j = i then (⟨_, _, _⟩ : CV) else M.cell j).n = _
        rw [if_neg q]
      rw [← this]; exact hj
theorem VOk.wr {M M' : Mem} (h : VOk M) (hw : Wr1 M M') : VOk M' := by
  rcases hw with rfl | ⟨i, v, n, L, rfl⟩
  · exact h
  · rcases write_as (M := M) (i := i) (v := v) (x := n) (L := L) with ⟨_, e, _⟩ | ⟨_, e⟩
    · rw [e]; exact h.put _ _ _
    · rw [e]; exact h

/-- What holds of a Kfifo's memory. -/
def KV (M : Mem) : Prop := KM M ∧ VOk M
theorem KV.empty : KV Mem.empty := ⟨KM.empty, VOk.empty⟩

theorem chk_ops {kind k v : Int} (h : chk kind k v = 0) : opFrom kind ≤ k ∧ k ≤ opTo kind := by
  unfold chk at h
  split at h
  · cases h
  · next e => exact Classical.not_not.1 e
theorem par_rng {k p : Int} (h : legal k p = 0) : 1 ≤ p ∧ p ≤ 16 := by
  by_cases hk : 1 ≤ k ∧ k ≤ 4
  · rcases Classical.em (1 ≤ p ∧ p ≤ 16) with h' | h'
    · exact h'
    · rw [legal_par hk h'] at h; cases h
  · rw [legal_kind hk] at h; cases h

theorem kitT (p : Int) (hp : 1 ≤ p ∧ p ≤ 16) : Kit 3 p 155 (.agg #[.int .i64 p]) (fun _ => False) (fun _ => True) (fun _ => True) (tGood p) (tStep p) where
  pa := fun _ _ _ _ _ _ => trivial
  pick := fun eb mb Q closed steps pick t fb O P M F w hE hb hQ hst hM hF _ hd hne _ hg hc => by
    obtain ⟨a0, k0, a1, k1, hbx, _⟩ := hF.box
    exact pickT_any p eb 3 p mb Q closed steps pick t fb O P _ w hE hb hQ hst (fun k hk => hk.elim (hM.lt k) (hF.lt k)) hne ⟨a0, k0, a1, k1, F, hbx⟩
      (fun W hW => tstep_is p hp W mb fb O P M F (hM.below hW) (hF.below hW) hd hg (by omega))
  self := fun M F hg hd => by
    rcases hg with hk | ⟨hk, hat⟩
    · left
      unfold tStep
      rw [if_pos hk]
      split <;> exact hk
    · right
      unfold tStep at hd ⊢
      rw [if_neg (by omega)] at hd ⊢
      by_cases hlt : F.at_ + 1 < p
      · rw [sumR_lt hlt]
        exact ⟨hk, by show 0 ≤ F.at_ + 1; omega, hlt⟩
      · rw [sumR_ge hlt] at hd; cases hd
  other := fun _ _ _ _ h => h
  inv := fun _ _ _ _ => trivial
  clk := fun M F => (tStep_wr p M F).clk.2
  start := fun M k pri v d0 d1 _ hk _ => by
    have := chk_ops hk
    rw [show opFrom 3 = 5 by decide, show opTo 3 = 6 by decide] at this
    rcases (show k = 5 ∨ k = 6 by omega) with rfl | rfl
    · exact .inl rfl
    · exact .inr ⟨rfl, by show (0 : Int) ≤ 0; decide, by show (0 : Int) < p; omega⟩

theorem kitM (p : Int) (hp : 1 ≤ p ∧ p ≤ 16) : Kit 1 p 147 (.agg #[.int .i64 p]) (fun _ => False) (fun _ => True) MOk mGood (mStep p) where
  pa := fun _ _ _ _ _ _ => trivial
  pick := fun eb mb Q closed steps pick t fb O P M F w hE hb hQ hst hM hF _ hd hne _ hg hc => by
    obtain ⟨a0, k0, a1, k1, hbx, _⟩ := hF.box
    exact pickM_any p eb 1 p mb Q closed steps pick t fb O P _ w hE hb hQ hst (fun k hk => hk.elim (hM.lt k) (hF.lt k)) hne ⟨a0, k0, a1, k1, F, hbx⟩
      (fun W hW => mstep_is p hp W mb fb O P M F (hM.below hW) (hF.below hW) hd hg (by omega))
  self := fun M F hg hd => (mFine p).on M F hg hd
  other := fun M F F2 hg h2 => ⟨mStep_mem p hg, h2.2⟩
  inv := fun M F hg _ => mStep_mem p hg
  clk := fun M F => (mStep_wr p M F).clk.2
  start := fun M k pri v d0 d1 hI hk hpr => by
    have := chk_ops hk
    rw [show opFrom 1 = 1 by decide, show opTo 1 = 2 by decide] at this
    refine ⟨hI, KOk.nil _, KOk.nil _, ?_⟩
    rcases (show k = 1 ∨ k = 2 by omega) with rfl | rfl
    · exact .inl ⟨rfl, hpr, fun e => absurd rfl e⟩
    · exact .inr ⟨rfl, fun e => absurd rfl e⟩

theorem kitK (p : Int) (hp : 1 ≤ p ∧ p ≤ 16) : Kit 2 p 151 (.agg #[.int .i64 p]) (fun _ => False) (fun _ => True) KV (kGood p) (kStep p) where
  pa := fun _ _ _ _ _ _ => trivial
  pick := fun eb mb Q closed steps pick t fb O P M F w hE hb hQ hst hM hF _ hd hne _ hg hc => by
    obtain ⟨a0, k0, a1, k1, hbx, _⟩ := hF.box
    exact pickK_any p eb 2 p mb Q closed steps pick t fb O P _ w hE hb hQ hst (fun k hk => hk.elim (hM.lt k) (hF.lt k)) hne ⟨a0, k0, a1, k1, F, hbx⟩
      (fun W hW => kstep_is p hp W mb fb O P M F (hM.below hW) (hF.below hW) hd hg (by omega))
  self := fun M F hg hd => (kFine p hp).on M F hg hd
  other := fun M F F2 hg h2 => by
    have := (kStep_wr p M F).clk
    exact ⟨h2.kind, h2.seen, h2.below, ⟨h2.seg.1, by have := h2.seg.2; omega⟩, h2.at_, h2.pri, h2.full, kStep_mem hg⟩
  inv := fun M F hg h => ⟨kStep_mem hg, h.2.wr (kStep_wr p M F)⟩
  clk := fun M F => (kStep_wr p M F).clk.2
  start := fun M k pri v d0 d1 hI hk hpr => by
    have := chk_ops hk
    rw [show opFrom 2 = 3 by decide, show opTo 2 = 4 by decide] at this
    exact kGood.start hp.1 k pri v d0 d1 (by omega) hpr hI.1

/-- A Net's gates, its places, by its width. -/
def nC (n : Nat) : Nat := cg (Nat.log2 n)
def nG (n : Nat) : List (Nat × Nat) := (Wr.count (Nat.log2 n) (List.range n)).1
def nO (n : Nat) : List Nat := (Wr.count (Nat.log2 n) (List.range n)).2
theorem PF.is {n c : Nat} {G : List (Nat × Nat)} {Os : List Nat} (h : PF n c G Os) : c = nC n ∧ G = nG n ∧ Os = nO n ∧ 1 ≤ n ∧ n ≤ 16 ∧ nC n ≤ 100 ∧ (nG n).length = nC n ∧ (nO n).length = n ∧ (∀ g ∈ nG n, g.1 < n ∧ g.2 < n) ∧ ∀ v, v < n → v ∈ nO n := by
  obtain ⟨d, hd, rfl, rfl, rfl, rfl⟩ := h.ex
  have hl : Nat.log2 (2 ^ d) = d := Nat.log2_two_pow
  unfold nC nG nO
  rw [hl]
  obtain ⟨f1, f2, f3, _, f5, _⟩ := net_facts d (2 ^ d) hd rfl
  obtain ⟨_, h1, h16⟩ := legal_pow hd rfl
  refine ⟨rfl, rfl, rfl, by omega, by omega, ?_, f1, f2, fun g hg => (f3 g hg).2, f5⟩
  have : d = 0 ∨ d = 1 ∨ d = 2 ∨ d = 3 ∨ d = 4 := by omega
  rcases this with rfl | rfl | rfl | rfl | rfl <;> decide
theorem nStep_mem {n c : Nat} {G : List (Nat × Nat)} {Os : List Nat} {M : Mem} {F : Fr} : ∃ i, (nStep n c G Os M F).1 = bump M i := by
  unfold nStep
  split <;> exact ⟨_, rfl⟩
theorem kitN (n gc oc : Nat) (ga oa : Option Addr) (D : Nat → Prop) (hP : PF n (nC n) (nG n) (nO n)) :
    Kit 4 (n : Int) 141 (.agg #[.int .i64 (n : Int), .slice ga (nC n) gc, .slice oa n oc]) D (fun w => NP w D ga gc (nC n) oa n (nG n) (nO n)) NOk (nGood n (nC n)) (nStep n (nC n) (nG n) (nO n)) where
  pa := fun _ _ _ h hb hS => h.but hb hS
  pick := fun eb mb Q closed steps pick t fb O P M F w hE hb hQ hst hM hF hA hd hne hD hg hc => by
    obtain ⟨_, _, _, q1, q16, qc, q4, q5, q6, q7⟩ := hP.is
    obtain ⟨a0, k0, a1, k1, hbx, _⟩ := hF.box
    exact pickN_any n (nC n) gc oc ga oa eb 4 n mb Q closed steps pick t fb O P _ w hE hb hQ hst (fun k hk => hk.elim (hM.lt k) (hF.lt k)) hne ⟨a0, k0, a1, k1, F, hbx⟩
      (fun W hW => nstep_is n (nC n) gc oc ga oa D (nG n) (nO n) qc q1 q16 q7 W mb fb O P M F (hA.below hW) hD (hM.below hW) (hF.below hW) hd hg hc)
  self := fun M F hg hd => by
    obtain ⟨_, _, _, _, _, _, q4, _, q6, _⟩ := hP.is
    exact (nFine (nO n) q4 q6).on M F hg hd
  other := fun M F F2 hg h2 => by
    obtain ⟨i, hi⟩ := nStep_mem (n := n) (c := nC n) (G := nG n) (Os := nO n) (M := M) (F := F)
    rw [hi]
    exact ⟨h2.1, h2.2.1, h2.2.2.1, h2.2.2.2.1, h2.2.2.2.2.1, h2.2.2.2.2.2.bump i⟩
  inv := fun M F _ h => by
    obtain ⟨i, hi⟩ := nStep_mem (n := n) (c := nC n) (G := nG n) (Os := nO n) (M := M) (F := F)
    rw [hi]
    exact h.bump i
  clk := fun M F => by
    obtain ⟨i, hi⟩ := nStep_mem (n := n) (c := nC n) (G := nG n) (Os := nO n) (M := M) (F := F)
    rw [hi]
    exact Nat.le_refl _
  start := fun M k pri v d0 d1 hI hk _ => by
    obtain ⟨_, _, _, q1, _⟩ := hP.is
    have := chk_ops hk
    rw [show opFrom 4 = 7 by decide, show opTo 4 = 7 by decide] at this
    exact ⟨by show k = 7; omega, by show (0 : Int) ≤ 0; decide, by show (0 : Int) ≤ _; omega, by show (0 : Int) ≤ 0; decide, by show (0 : Int) < (n : Int); omega, hI⟩

/-- Of each kind: what holds of a memory, of a frame; the step. -/
def iK (kind : Int) : Mem → Prop := if kind = 1 then MOk else if kind = 2 then KV else if kind = 3 then fun _ => True else NOk
def gK (kind param : Int) : Mem → Fr → Prop := if kind = 1 then mGood else if kind = 2 then kGood param else if kind = 3 then tGood param else nGood param.toNat (nC param.toNat)
def stK (kind param : Int) : StepFn := if kind = 1 then mStep param else if kind = 2 then kStep param else if kind = 3 then tStep param else nStep param.toNat (nC param.toNat) (nG param.toNat) (nO param.toNat)
theorem iK_empty (kind : Int) : iK kind Mem.empty := by
  unfold iK
  split
  · exact MOk.empty
  · split
    · exact KV.empty
    · split
      · trivial
      · exact NOk.empty

/-- An engine of a kind, whatever lies where. -/
def EAt (kind param : Int) (S : Nat → Prop) (eb : Nat) (M : Mem) (F : Nat → Option Fr) (closed : Bool) (steps : Nat) (w : World) : Prop :=
  ∃ T mv D PA mb Q O P, Kit kind param T mv D PA (iK kind) (gK kind param) (stK kind param) ∧ ESt kind param T mv D PA (iK kind) (gK kind param) S eb mb M F closed steps Q O P w
section
variable {kind param : Int} {S : Nat → Prop} {eb : Nat} {M : Mem} {F : Nat → Option Fr} {closed : Bool} {steps : Nat} {w w' : World}
theorem EAt.but (h : EAt kind param S eb M F closed steps w) {B : Nat → Prop} (hb : But B w w') (hS : ∀ k, S k → ¬ B k) : EAt kind param S eb M F closed steps w' := by
  obtain ⟨T, mv, D, PA, mb, Q, O, P, K, h⟩ := h
  exact ⟨T, mv, D, PA, mb, Q, O, P, K, h.but K hb hS⟩
theorem EAt.below (h : EAt kind param S eb M F closed steps w) (hb : Below w.heap.size w w') : EAt kind param S eb M F closed steps w' :=
  h.but (B := fun _ => False) (But.of_below hb) (fun _ _ e => e)
theorem EAt.lt (h : EAt kind param S eb M F closed steps w) : ∀ k, S k → k < w.heap.size := by
  obtain ⟨T, mv, D, PA, mb, Q, O, P, K, h⟩ := h
  exact h.lt
theorem EAt.begin_ (h : EAt kind param S eb M F closed steps w) (t k v d0 d1 : Int) (pri : Nat) (hp : pri < 18446744073709551616) :
    Calls Tryz.prog 8 #[.pointer (some ⟨eb, 0, none⟩), .int .i64 t, .agg #[.int .i64 k, .float .f64 pri, .int .i64 v, .int .i64 d0, .int .i64 d1]] w fun e w' =>
      e = .returned (.int .i64 (begG kind closed F t k v)) ∧ EAt kind param (own' S w w') eb M (begF F (begG kind closed F t k v) t (Fr.of k pri v d0 d1)) closed steps w' ∧ But S w w' := by
  obtain ⟨T, mv, D, PA, mb, Q, O, P, K, h⟩ := h
  refine (h.begin_ K t k v d0 d1 pri hp).mono ?_
  rintro e w' ⟨he, ⟨Q', P', h'⟩, hb⟩
  exact ⟨he, ⟨T, mv, D, PA, mb, Q', O, P', K, h'⟩, hb⟩
theorem EAt.pick_ (h : EAt kind param S eb M F closed steps w) (pick : Int) (hst : steps < 4611686018427387904) (hcl : M.clock < 1125899906842624) :
    Calls Tryz.prog 10 #[.pointer (some ⟨eb, 0, none⟩), .int .i64 pick] w fun e w' =>
      e = .returned (.tuple #[(pickS (stK kind param) pick M F steps).ev, .bool (pickS (stK kind param) pick M F steps).ok]) ∧
      EAt kind param (own' S w w') eb (pickS (stK kind param) pick M F steps).M (pickS (stK kind param) pick M F steps).F closed (pickS (stK kind param) pick M F steps).steps w' ∧ But S w w' := by
  obtain ⟨T, mv, D, PA, mb, Q, O, P, K, h⟩ := h
  refine (h.pick_ K pick hst hcl).mono ?_
  rintro e w' ⟨he, ⟨Q', O', P', h'⟩, hb⟩
  exact ⟨he, ⟨T, mv, D, PA, mb, Q', O', P', K, h'⟩, hb⟩
end
theorem pickT_clk {kind param : Int} {M : Mem} {t : Nat} {o : Option Fr} {F : Nat → Option Fr} {steps : Nat} : (pickT (stK kind param) t o M F steps).M.clock ≤ M.clock + 1 ∧ (pickT (stK kind param) t o M F steps).steps ≤ steps + 1 := by
  unfold pickT
  cases o with
  | none => exact ⟨Nat.le_succ _, Nat.le_succ _⟩
  | some f =>
    refine ⟨?_, Nat.le_refl _⟩
    show (stK kind param M f).1.clock ≤ _
    unfold stK
    split
    · exact (mStep_wr _ _ _).clk.2
    · split
      · exact (kStep_wr _ _ _).clk.2
      · split
        · exact (tStep_wr _ _ _).clk.2
        · obtain ⟨i, hi⟩ := nStep_mem (n := param.toNat) (c := nC param.toNat) (G := nG param.toNat) (Os := nO param.toNat) (M := M) (F := f)
          rw [hi]
          exact Nat.le_refl _
theorem pickS_clk {kind param pick : Int} {M : Mem} {F : Nat → Option Fr} {steps : Nat} : (pickS (stK kind param) pick M F steps).M.clock ≤ M.clock + 1 ∧ (pickS (stK kind param) pick M F steps).steps ≤ steps + 1 := by
  unfold pickS
  split
  · exact ⟨Nat.le_succ _, Nat.le_succ _⟩
  · exact pickT_clk

/-- A new engine of a kind and parameter that may be. -/
def NewK (kind param : Int) (w : World) (e : Ending) (w' : World) : Prop :=
  ∃ eb, e = .returned (.tuple #[.pointer (some ⟨eb, 0, none⟩), .int .i64 0]) ∧ Below w.heap.size w w' ∧ EAt kind param (fun k => w.heap.size ≤ k ∧ k < w'.heap.size) eb Mem.empty (fun _ => none) false 0 w'
theorem newK_of {kind param : Int} {KP : Nat → TypeId → Value → World → Prop} (w : World) (hM : ∀ w, Calls Tryz.prog 51 #[.int .i64 kind, .int .i64 param] w (MachEnd KP 0 w))
    (hK : ∀ L T v w1, KP L T v w1 → ∃ D PA, Kit kind param T v D PA (iK kind) (gK kind param) (stK kind param) ∧ PA w1 ∧ ∀ j, D j → L ≤ j ∧ j < w1.heap.size) :
    Calls Tryz.prog 7 #[.int .i64 kind, .int .i64 param] w (NewK kind param w) := by
  refine (new13_any KP kind param 0 hM w).mono ?_
  rintro e w' ⟨hb, _, hok⟩
  obtain ⟨T, v, eb, mb, L, w1, rfl, hmb, hL, hLe, hwm, hMm, hE, hk, hbm⟩ := hok rfl
  obtain ⟨D, PA, K, hA, hD⟩ := hK L T v w1 hk
  have hel := hE.lt
  refine ⟨eb, rfl, hb, T, v, D, PA, mb, fun _ => none, fun k => k = mb, fun _ _ => False, K, ?_⟩
  refine ⟨hE, hMm, K.pa _ _ (fun _ => False) hA (But.of_below hbm) (fun _ _ e => e), iK_empty kind, fun t _ => ⟨rfl, fun k e => e⟩, fun t fb e => (by cases e), fun _ _ _ _ e => e.elim, fun _ _ _ e => e, fun e => ?_, fun _ e => e, fun k hk e => ?_, fun _ _ _ e => e, fun hk => ?_, ?_, fun k hk => ?_, fun _ _ e => e.elim, fun k hk => ?_, fun k hk => hk.2⟩
  · have : eb = mb := e
    omega
  · have : k = mb := e
    have := (hD k hk).1
    omega
  · have := (hD eb hk).2
    omega
  · exact ⟨by omega, hel⟩
  · have : k = mb := hk
    exact ⟨by omega, by omega⟩
  · have := hD k hk
    exact ⟨by omega, by omega⟩
theorem newK_any (kind param : Int) (hL : legal kind param = 0) (w : World) : Calls Tryz.prog 7 #[.int .i64 kind, .int .i64 param] w (NewK kind param w) := by
  have hp := par_rng hL
  have hk : 1 ≤ kind ∧ kind ≤ 4 := by
    rcases Classical.em (1 ≤ kind ∧ kind ≤ 4) with h | h
    · exact h
    · rw [legal_kind h] at hL; cases hL
  rcases (show kind = 1 ∨ kind = 2 ∨ kind = 3 ∨ kind = 4 by omega) with rfl | rfl | rfl | rfl
  · refine newK_of w (fun w => by have := machine1_any param w; rw [hL] at this; exact this) (fun L T v w1 h => ?_)
    obtain ⟨rfl, hv⟩ := h
    rw [hv rfl]
    exact ⟨_, _, kitM param hp, trivial, fun j e => e.elim⟩
  · refine newK_of w (fun w => by have := machine2_any param w; rw [hL] at this; exact this) (fun L T v w1 h => ?_)
    obtain ⟨rfl, hv⟩ := h
    rw [hv rfl]
    exact ⟨_, _, kitK param hp, trivial, fun j e => e.elim⟩
  · refine newK_of w (fun w => by have := machine3_any param w; rw [hL] at this; exact this) (fun L T v w1 h => ?_)
    obtain ⟨rfl, hv⟩ := h
    rw [hv rfl]
    exact ⟨_, _, kitT param hp, trivial, fun j e => e.elim⟩
  · refine newK_of w (fun w => by have := machine4_any param w; rw [hL] at this; exact this) (fun L T v w1 h => ?_)
    obtain ⟨rfl, hv⟩ := h
    obtain ⟨n, c, gc, oc, ga, oa, G, Os, D, rfl, rfl, hP, hNP, hD⟩ := hv hL
    obtain ⟨rfl, rfl, rfl, _⟩ := hP.is
    exact ⟨D, _, kitN n gc oc ga oa D hP, hNP, fun j hj => ⟨hD j hj, hNP.lt j hj⟩⟩
end Go.Proofs.YtbcmilfajeanbaaGreat

namespace Go.Proofs.YtbcmilfajeanbaaGreat
open Go.RowKit Go.Sort

/-- An event, its answer's number a float64's bits. -/
def EvOk (ev : Value) : Prop :=
  ∃ (t k v d0 d1 av an : Int) (pri ap : Nat) (d ok : Bool), ev = .agg #[.int .i64 t, .int .i64 k, .float .f64 pri, .int .i64 v, .int .i64 d0, .int .i64 d1, .bool d, .bool ok, .float .f64 ap, .int .i64 av, .int .i64 an] ∧ ap < 18446744073709551616
theorem EvOk.zero : EvOk evZ := ⟨0, 0, 0, 0, 0, 0, 0, 0, 0, false, false, rfl, by decide⟩
theorem hd1_lt (K : List KI) : (hd1 K).b < 18446744073709551616 := (hd1 K).ok.1
theorem pri_ok {kind param : Int} {M : Mem} {F : Fr} (h : gK kind param M F) : (stK kind param M F).2.2.1.pri < 18446744073709551616 := by
  have z0 : (0 : Nat) < 18446744073709551616 := by decide
  unfold gK at h
  unfold stK
  split
  · next e =>
    rw [if_pos e] at h
    obtain ⟨_, _, _, hk⟩ := h
    unfold mStep
    rcases hk with ⟨hk, hp, _⟩ | ⟨hk, _⟩
    · rw [if_pos hk]
      unfold insS
      split
      · split <;> exact z0
      · dsimp only
        split
        · exact cbits_lt hp
        · exact z0
    · rw [if_neg (by omega)]
      unfold remS
      split
      · exact z0
      · split
        · split <;> exact z0
        · split
          · dsimp only
            split
            · exact hd1_lt _
            · exact z0
          · dsimp only
            split
            · exact hd1_lt _
            · exact z0
  · next e1 =>
    rw [if_neg e1] at h
    split
    · next e =>
      rw [if_pos e] at h
      unfold kStep
      split
      · unfold kEnq
        split
        · exact z0
        · split
          · exact z0
          · split
            · unfold kWrite
              dsimp only
              split
              · exact cbits_lt h.pri
              · exact z0
            · exact z0
      · next hne =>
        unfold kDeq
        split
        · exact z0
        · split
          · exact z0
          · split
            · exact z0
            · split
              · next h3 =>
                obtain ⟨x, hx⟩ := h.full (h.kind.resolve_left hne) h3
                unfold kWrite
                dsimp only
                split
                · rw [hx]; exact x.ok.1
                · exact z0
              · exact z0
    · next e2 =>
      rw [if_neg e2] at h
      split
      · unfold tStep
        split
        · split <;> exact z0
        · unfold sumR; split <;> exact z0
      · unfold nStep; split <;> exact z0
section
variable {kind param : Int} {S : Nat → Prop} {eb : Nat} {M : Mem} {F : Nat → Option Fr} {closed : Bool} {steps : Nat} {w w' : World}
theorem EAt.ev_ok (h : EAt kind param S eb M F closed steps w) (pick : Int) : EvOk (pickS (stK kind param) pick M F steps).ev := by
  obtain ⟨T, mv, D, PA, mb, Q, O, P, K, h⟩ := h
  unfold pickS
  split
  · exact EvOk.zero
  · next t _ =>
    unfold pickT
    split
    · exact EvOk.zero
    · next f hf =>
      cases hq : Q t with
      | none => rw [(h.no t hq).1] at hf; cases hf
      | some fb =>
        obtain ⟨f', h1, _, hg⟩ := h.yes t fb hq
        rw [hf] at h1
        cases h1
        exact ⟨_, _, _, _, _, _, _, _, _, _, _, rfl, pri_ok hg⟩
end

/-- Two engines of one kind in one world, their blocks apart, behind lo, none of them in X. -/
structure TwoE (kind param : Int) (lo : Nat) (X : Nat → Prop) (ea eb : Nat) (Ma Mb : Mem) (Fa Fb : Nat → Option Fr) (sa sb : Nat) (w : World) : Prop where
  ex : ∃ Sa Sb, EAt kind param Sa ea Ma Fa false sa w ∧ EAt kind param Sb eb Mb Fb false sb w ∧ (∀ k, Sa k → ¬ Sb k) ∧ (∀ k, Sa k → lo ≤ k ∧ ¬ X k) ∧ (∀ k, Sb k → lo ≤ k ∧ ¬ X k)
  xl : ∀ k, X k → k < w.heap.size
  low : lo ≤ w.heap.size
/-- What may turn. -/
abbrev Turn (lo : Nat) (X : Nat → Prop) (k : Nat) : Prop := lo ≤ k ∧ ¬ X k
section
variable {kind param : Int} {lo : Nat} {X : Nat → Prop} {ea eb : Nat} {Ma Mb : Mem} {Fa Fb : Nat → Option Fr} {sa sb : Nat} {w w' : World}
theorem TwoE.below (h : TwoE kind param lo X ea eb Ma Mb Fa Fb sa sb w) (hb : Below w.heap.size w w') : TwoE kind param lo X ea eb Ma Mb Fa Fb sa sb w' := by
  obtain ⟨Sa, Sb, h1, h2, h3⟩ := h.ex
  exact ⟨⟨Sa, Sb, h1.below hb, h2.below hb, h3⟩, fun k hk => Nat.lt_of_lt_of_le (h.xl k hk) hb.size, Nat.le_trans h.low hb.size⟩
theorem TwoE.drew (h : TwoE kind param lo X ea eb Ma Mb Fa Fb sa sb w) : TwoE kind param lo X ea eb Ma Mb Fa Fb sa sb w.drew := h.below (Below.refl _ _).drew
/-- With a new block that isn't theirs. -/
theorem TwoE.box (h : TwoE kind param lo X ea eb Ma Mb Fa Fb sa sb w) (hb : Below w.heap.size w w') (hl : w.heap.size < w'.heap.size) : TwoE kind param lo (fun k => X k ∨ k = w.heap.size) ea eb Ma Mb Fa Fb sa sb w' := by
  obtain ⟨Sa, Sb, h1, h2, h3, h4, h5⟩ := h.ex
  refine ⟨⟨Sa, Sb, h1.below hb, h2.below hb, h3, fun k hk => ⟨(h4 k hk).1, fun e => ?_⟩, fun k hk => ⟨(h5 k hk).1, fun e => ?_⟩⟩, fun k hk => ?_, Nat.le_trans h.low hb.size⟩
  · rcases e with e | e
    · exact (h4 k hk).2 e
    · have := h1.lt k hk; omega
  · rcases e with e | e
    · exact (h5 k hk).2 e
    · have := h2.lt k hk; omega
  · rcases hk with e | e
    · exact Nat.lt_of_lt_of_le (h.xl k e) hb.size
    · omega
theorem TwoE.less (h : TwoE kind param lo X ea eb Ma Mb Fa Fb sa sb w) {Y : Nat → Prop} (hY : ∀ k, Y k → X k) : TwoE kind param lo Y ea eb Ma Mb Fa Fb sa sb w := by
  obtain ⟨Sa, Sb, h1, h2, h3, h4, h5⟩ := h.ex
  exact ⟨⟨Sa, Sb, h1, h2, h3, fun k hk => ⟨(h4 k hk).1, fun e => (h4 k hk).2 (hY k e)⟩, fun k hk => ⟨(h5 k hk).1, fun e => (h5 k hk).2 (hY k e)⟩⟩, fun k hk => h.xl k (hY k hk), h.low⟩
theorem TwoE.swap (h : TwoE kind param lo X ea eb Ma Mb Fa Fb sa sb w) : TwoE kind param lo X eb ea Mb Ma Fb Fa sb sa w := by
  obtain ⟨Sa, Sb, h1, h2, h3, h4, h5⟩ := h.ex
  exact ⟨⟨Sb, Sa, h2, h1, fun k hk e => h3 k e hk, h5, h4⟩, h.xl, h.low⟩
/-- The first one has turned. -/
theorem TwoE.turn (h : TwoE kind param lo X ea eb Ma Mb Fa Fb sa sb w) (Ma' : Mem) (Fa' : Nat → Option Fr) (sa' : Nat) (Sa : Nat → Prop) (Sb : Nat → Prop) (h2 : EAt kind param Sb eb Mb Fb false sb w) (h3 : ∀ k, Sa k → ¬ Sb k) (h4 : ∀ k, Sa k → lo ≤ k ∧ ¬ X k) (h5 : ∀ k, Sb k → lo ≤ k ∧ ¬ X k)
    (h1 : EAt kind param (own' Sa w w') ea Ma' Fa' false sa' w') (hb : But Sa w w') : TwoE kind param lo X ea eb Ma' Mb Fa' Fb sa' sb w' ∧ But (Turn lo X) w w' := by
  have hl := h2.lt
  have hlow := h.low
  refine ⟨⟨⟨own' Sa w w', Sb, h1, h2.but hb (fun k hk e => h3 k e hk), fun k hk e => ?_, fun k hk => ?_, h5⟩, fun k hk => Nat.lt_of_lt_of_le (h.xl k hk) hb.size, Nat.le_trans h.low hb.size⟩, hb.mono (fun k _ hk => h4 k hk)⟩
  · rcases hk with q | q
    · exact h3 k q e
    · have := hl k e; omega
  · rcases hk with q | q
    · exact h4 k q
    · exact ⟨by omega, fun e => by have := h.xl k e; omega⟩
theorem TwoE.beginA (h : TwoE kind param lo X ea eb Ma Mb Fa Fb sa sb w) (t k v d0 d1 : Int) (pri : Nat) (hp : pri < 18446744073709551616) :
    Calls Tryz.prog 8 #[.pointer (some ⟨ea, 0, none⟩), .int .i64 t, .agg #[.int .i64 k, .float .f64 pri, .int .i64 v, .int .i64 d0, .int .i64 d1]] w fun e w' =>
      e = .returned (.int .i64 (begG kind false Fa t k v)) ∧ TwoE kind param lo X ea eb Ma Mb (begF Fa (begG kind false Fa t k v) t (Fr.of k pri v d0 d1)) Fb sa sb w' ∧ But (Turn lo X) w w' := by
  obtain ⟨Sa, Sb, h1, h2, h3, h4, h5⟩ := h.ex
  refine (h1.begin_ t k v d0 d1 pri hp).mono ?_
  rintro e w' ⟨he, h1', hb⟩
  exact ⟨he, h.turn _ _ _ Sa Sb h2 h3 h4 h5 h1' hb⟩
theorem TwoE.pickA (h : TwoE kind param lo X ea eb Ma Mb Fa Fb sa sb w) (pick : Int) (hst : sa < 4611686018427387904) (hcl : Ma.clock < 1125899906842624) :
    Calls Tryz.prog 10 #[.pointer (some ⟨ea, 0, none⟩), .int .i64 pick] w fun e w' =>
      e = .returned (.tuple #[(pickS (stK kind param) pick Ma Fa sa).ev, .bool (pickS (stK kind param) pick Ma Fa sa).ok]) ∧
      TwoE kind param lo X ea eb (pickS (stK kind param) pick Ma Fa sa).M Mb (pickS (stK kind param) pick Ma Fa sa).F Fb (pickS (stK kind param) pick Ma Fa sa).steps sb w' ∧ But (Turn lo X) w w' := by
  obtain ⟨Sa, Sb, h1, h2, h3, h4, h5⟩ := h.ex
  refine (h1.pick_ pick hst hcl).mono ?_
  rintro e w' ⟨he, h1', hb⟩
  exact ⟨he, h.turn _ _ _ Sa Sb h2 h3 h4 h5 h1' hb⟩
theorem TwoE.ev_ok (h : TwoE kind param lo X ea eb Ma Mb Fa Fb sa sb w) (pick : Int) : EvOk (pickS (stK kind param) pick Ma Fa sa).ev := by
  obtain ⟨Sa, Sb, h1, _⟩ := h.ex
  exact h1.ev_ok pick
end
end Go.Proofs.YtbcmilfajeanbaaGreat

namespace Go.Proofs.YtbcmilfajeanbaaGreat
open Go.RowKit Go.Sort

theorem nil_append0 {P : Program} {k : Nat} {T E : TypeId} (hp : PlainK P k T E) (ty : TypeId) (w : World) (x : Value) (ys : List Value) (hs : Src P k T x 0 ys w) :
    (Builtin.append_ #[T, T] ty #[.slice none 0 0, x]).run P w = .ok (.slice none 0 0) w := by
  obtain ⟨i, z, hT, hi, hz, hsz, hzc, hby⟩ := hp
  subst hsz
  simp [Builtin.append_, run_underlying hT, sizeOf, typeInfo, hi, hs.len, hs.cells]
theorem sl_append_any {P : Program} {k : Nat} {T E : TypeId} (hp : PlainK P k T E) (ty : TypeId) (w : World) (a : Option Addr) (cap n : Nat) (l : List Value) (h : SlAt k w a cap n l) (x : Value) (m : Nat) (ys : List Value)
    (hs : Src P k T x m ys w) (hb : n + m ≤ 1099511627776) :
    ∃ a' cap' w', (Builtin.append_ #[T, T] ty #[.slice a n cap, x]).run P w = .ok (.slice a' (n + m) cap') w' ∧
      SlAt k w' a' cap' (n + m) (l ++ ys) ∧ But (inB a) w w' ∧ ∀ j, inB a' j → inB a j ∨ w.heap.size ≤ j := by
  by_cases hm : 0 < m
  · obtain ⟨g', cap', w', h1, h2, h3, h4⟩ := sl_append hp ty w a cap n l h x m ys hs hm hb
    refine ⟨_, cap', w', h1, .inr ⟨g', rfl, h2⟩, h3, fun j hj => ?_⟩
    obtain ⟨q, e, e2⟩ := hj
    cases e
    exact e2 ▸ h4
  · have hm0 : m = 0 := by omega
    subst hm0
    rcases h with ⟨rfl, rfl, rfl, rfl⟩ | ⟨g, rfl, hf⟩
    · have hy : ys = [] := by have := hs.newsLen; simpa using this
      subst hy
      exact ⟨none, 0, w, nil_append0 hp ty w x [] hs, SlAt.nil _ _, But.refl _ _, fun j hj => .inl hj⟩
    · obtain ⟨i, z, hT, hi, hz, hsz, hzc, hby⟩ := hp
      obtain ⟨g', cap', w', h1, h2, h3, h4⟩ := flat_append k T E ty i z hT hi hz hsz hzc w g cap n l hf x 0 ys hs (by unfold maxLen; omega) (Nat.le_trans (Nat.mul_le_mul hb hby) (by decide))
      refine ⟨_, cap', w', h1, .inr ⟨g', rfl, h2⟩, h3.mono (fun j _ e => ⟨_, rfl, e.symm⟩), fun j hj => ?_⟩
      obtain ⟨q, e, e2⟩ := hj
      cases e
      exact e2 ▸ h4.imp (fun e => ⟨_, rfl, e.symm⟩) id
theorem wpList_sla {P : Program} {k : Nat} {T E : TypeId} (hp : PlainK P k T E) (w : World) {ops : Array Oper} {rest : List Oper} {o : Oper} {a : Act} {Q : Exit → Act → World → Prop}
    (hg : o.guard = none) (s x : Operand) (hop : o.op = Op.call { callee := Callee.builtin Builtin.append, args := #[s, x], argTypes := #[T, T] })
    (b : Option Addr) (cap n : Nat) (l : List Value) (hs : a.eval s = .slice b n cap) (hF : SlAt k w b cap n l) (xv : Value) (hx : a.eval x = xv) (m : Nat) (ys : List Value)
    (hsrc : Src P k T xv m ys w) (hb : n + m ≤ 1099511627776)
    (hK : ∀ a' cap' w', SlAt k w' a' cap' (n + m) (l ++ ys) → But (inB b) w w' → (∀ j, inB a' j → inB b j ∨ w.heap.size ≤ j) → wpList P ops Q rest (a.put o.dst (.slice a' (n + m) cap')) w') : wpList P ops Q (o :: rest) a w := by
  refine wpList_plain hg fun K hK' => ?_
  obtain ⟨a', cap', w', hrun, r1, r2, r3⟩ := sl_append_any hp o.type w b cap n l hF xv m ys hsrc hb
  unfold Oper.wp
  simp [execOp, hop, resolve, invoke, builtin, hs, hx, hrun, Result.andThen]
  exact hK' _ _ (hK a' cap' w' r1 r2 r3)
end Go.Proofs.YtbcmilfajeanbaaGreat

namespace Go.Proofs.YtbcmilfajeanbaaGreat
open Go.RowKit Go.Sort

/-- The N of so many cells, from one on. -/
def totA (M : Mem) (f : Int) : Nat → Int
  | 0 => 0
  | k + 1 => wrap64 (totA M f k + (M.look (f + (k : Int))).n)

/-- A cell's value. -/
theorem cell_value (x y z : Value) (w : World) : (Instr.field 94 (.agg #[x, y, z]) 1).run Tryz.prog w = .ok (.agg #[y, z]) w := by kernel_rfl
theorem value_n (x y : Value) (w : World) : (Instr.field 92 (.agg #[x, y]) 0).run Tryz.prog w = .ok x w := by kernel_rfl
theorem value_l (x y : Value) (w : World) : (Instr.field 92 (.agg #[x, y]) 1).run Tryz.prog w = .ok y w := by kernel_rfl
set_option maxRecDepth 10000 in
set_option maxHeartbeats 2000000 in
theorem together_any (b : Nat) (O : Nat → Prop) (M : Mem) (f : Int) (c : Nat) (hf : 0 ≤ f ∧ f ≤ 1000) (hc : c ≤ 1000) (w : World) (h : MemAt w b O M) :
    Calls Tryz.prog 61 #[.pointer (some ⟨b, 0, none⟩), .int .i64 f, .int .i64 (c : Int)] w fun e w' => e = .returned (.int .i64 (totA M f c)) ∧ Below w.heap.size w w' := by
  have HM := hidq h
  have hfd := cell_value
  have hfn := value_n
  clear h
  go_enter Tryz.func61, Tryz.ntmps61
  go_wp2
  go_loopw [7, 10] (fun n i wr => ∃ k : Nat, n = .int .i64 (totA M f k) ∧ i = .int .i64 (k : Int) ∧ k ≤ c ∧ Below w.heap.size w wr) (fun _ i _ => c - (intOf i).toNat)
  case atStart => exact ⟨0, rfl, rfl, Nat.zero_le _, Below.refl _ _⟩
  case round =>
    obtain ⟨k, rfl, rfl, hk, hB⟩ := hrel
    by_cases hlt : k < c
    · have hR := hidq (read5_any b O M (f + (k : Int)) wr (HM.out.below hB))
      have hd : (k : Int) < (c : Int) := by omega
      have hfk : IntKind.i64.wrap (f + (k : Int)) = f + (k : Int) := by rw [IntKind.wrap_i64]; omega
      have hT : wrap64 (totA M f k + (M.look (f + (k : Int))).n) = totA M f (k + 1) := rfl
      have HT := hidq hT
      have HB := hidq hB
      clear hT hB
      go_wp2_with fail
      try rw [hfk]
      refine hR.out.mono ?_
      rintro e w1 ⟨a', cap', rfl, _, _, hb1⟩
      have HB1 := hidq hb1
      clear hb1 hR
      go_wp2
      refine ⟨⟨k + 1, ?_, by first | rfl | (congr 1; omega), by omega, HB.out.trans (HB1.out.mono HB.out.size)⟩, by simp [intOf]; omega⟩
      show Value.int .i64 (wrap64 (totA M f k + (M.look (f + (k : Int))).n)) = _
      rw [HT.out]
    · have hd : decide ((k : Int) < (c : Int)) = false := decide_eq_false (by omega)
      have hkc : k = c := by omega
      subst hkc
      have HB := hidq hB
      clear hB
      go_wp2
      go_ret
      exact ⟨rfl, HB.out⟩
end Go.Proofs.YtbcmilfajeanbaaGreat

namespace Go.Proofs.YtbcmilfajeanbaaGreat
open Go.RowKit Go.Sort

theorem row_flat {w : World} {g cap : Nat} {K : List KI} (h : Row w g cap K.toArray) : Flat 2 w g cap K.length (flatI (kit K)) := by
  have hz : K.toArray.size = K.length := by simp
  refine ⟨h.lt, by rw [flatI_length, kit_length], by have := h.le; omega, h.cmax, fun t u hu => ?_, flatI_one _, h.there⟩
  have ht : t < (flatI (kit K)).length := (List.getElem?_eq_some_iff.1 hu).1
  rw [flatI_length, kit_length] at ht
  have hi : t / 2 < (kit K).length := by rw [kit_length]; omega
  obtain ⟨e1, e2⟩ := flatI_get (kit K) (t / 2) hi
  have hx : K.toArray[t / 2]! = K[t / 2]'(by omega) := by rw [getElem!_pos K.toArray (t / 2) (by omega)]; rfl
  rcases Nat.mod_two_eq_zero_or_one t with e | e
  · have et : t / 2 * 2 = t := by omega
    rw [et, hu] at e1
    cases e1
    have := h.flt (t / 2) (by omega)
    rw [et, hx] at this
    rw [this]
    simp [kit]
  · have et : t / 2 * 2 + 1 = t := by omega
    rw [et, hu] at e2
    cases e2
    have := h.val (t / 2) (by omega)
    rw [et, hx] at this
    rw [this]
    simp [kit]

/-- The items of the first shards, one behind the other. -/
def catL (M : Mem) : Nat → List It
  | 0 => []
  | k + 1 => catL M k ++ (M.look (k : Int)).L
theorem catL_ok {M : Mem} (h : MOk M) : ∀ k, ∃ K : List KI, catL M k = kit K ∧ K.length ≤ 62 * k
  | 0 => ⟨[], rfl, Nat.zero_le _⟩
  | k + 1 => by
    obtain ⟨K, h1, h2⟩ := catL_ok h k
    obtain ⟨K2, h3, _, h4⟩ := h.look (k : Int)
    refine ⟨K ++ K2, ?_, by rw [List.length_append]; omega⟩
    show catL M k ++ (M.look (k : Int)).L = _
    rw [h1, h3]
    simp [kit]
/-- The items of all shards, in order. -/
def shK (M : Mem) (c : Nat) : List KI := srt (kis (catL M c))

set_option maxRecDepth 10000 in
set_option maxHeartbeats 2000000 in
theorem inShards_any (b : Nat) (O : Nat → Prop) (M : Mem) (c : Nat) (hc : c ≤ 1000) (w : World) (h : MemAt w b O M) (hM : MOk M) :
    Calls Tryz.prog 59 #[.pointer (some ⟨b, 0, none⟩), .int .i64 (c : Int)] w fun e w' => ∃ a cap, e = .returned (.slice a (shK M c).length cap) ∧ SlAt 2 w' a cap (shK M c).length (flatI (kit (shK M c))) ∧ (∀ j, inB a j → w.heap.size ≤ j) ∧ Below w.heap.size w w' := by
  have HM := hidq (And.intro h hM)
  have hfd := cell_value
  have hfl := value_l
  clear h hM
  go_enter Tryz.func59, Tryz.ntmps59
  go_wp2
  go_loopw [5, 8] (fun l i wr => ∃ (k : Nat) (a : Option Addr) (cap : Nat), l = .slice a (catL M k).length cap ∧ i = .int .i64 (k : Int) ∧ k ≤ c ∧ SlAt 2 wr a cap (catL M k).length (flatI (catL M k)) ∧ (∀ j, inB a j → w.heap.size ≤ j) ∧ Below w.heap.size w wr) (fun _ i _ => c - (intOf i).toNat)
  case atStart => exact ⟨0, none, 0, rfl, rfl, Nat.zero_le _, SlAt.nil _ _, fun j hj => (by obtain ⟨x, hx, _⟩ := hj; cases hx), Below.refl _ _⟩
  case round =>
    obtain ⟨k, a, cap, rfl, rfl, hk, hS, hA, hB⟩ := hrel
    obtain ⟨K, hK, hKl⟩ := catL_ok HM.out.2 k
    have hlen : (catL M k).length ≤ 62 * k := by rw [hK, kit_length]; exact hKl
    by_cases hlt : k < c
    · have hR := hidq (read5_any b O M (k : Int) wr (HM.out.1.below hB))
      have hd : (k : Int) < (c : Int) := by omega
      obtain ⟨K2, hK2, _, hK2l⟩ := HM.out.2.look (k : Int)
      have hlen2 : (M.look (k : Int)).L.length ≤ 62 := by rw [hK2, kit_length]; exact hK2l
      have hT : catL M (k + 1) = catL M k ++ (M.look (k : Int)).L := rfl
      have HT := hidq hT
      have HB := hidq hB
      have HS := hidq (And.intro hS hA)
      clear hT hB hS hA hK hK2
      generalize hn1 : (catL M k).length = n1 at *
      generalize hl1 : catL M k = l1 at *
      go_wp2_with fail
      refine hR.out.mono ?_
      rintro e w1 ⟨a', cap', rfl, hS2, hA2, hb1⟩
      have HB1 := hidq hb1
      have HS2 := hidq hS2
      clear hb1 hR hS2 hA2
      generalize hn2 : (M.look (k : Int)).L.length = n2 at *
      go_wp2_with (at_builtin; refine wpList_sla plainI _ rfl (.tmp 11) (.tmp 16) rfl a cap n1 (flatI l1) rfl (HS.out.1.below HB1.out) _ rfl n2 (flatI (M.look (k : Int)).L) (HS2.out.src Tryz.underlying52) (by omega) ?_; intro a3 c3 w3 h3 h3b h3i)
      refine ⟨⟨k + 1, a3, c3, ?_, by first | rfl | (congr 1; omega), by omega, ?_, ?_, ?_⟩, by simp [intOf]; omega⟩
      · rw [HT.out, List.length_append, hn2, hn1]
      · rw [HT.out, List.length_append, hn2, hn1, flatI_append]; exact h3
      · intro j hj
        have := HB.out.size
        have := HB1.out.size
        rcases h3i j hj with e | e
        · exact HS.out.2 j e
        · omega
      · have q1 := HB.out.size
        have q2 := HB1.out.size
        exact (HB.out.trans (HB1.out.mono q1)).trans (h3b.below (by omega) HS.out.2)
    · have hd : decide ((k : Int) < (c : Int)) = false := decide_eq_false (by omega)
      have hkc : k = c := by omega
      subst hkc
      have hS' : SlAt 2 wr a cap (catL M k).length (flatI (kit K)) := by rw [← hK]; exact hS
      have hI := items_of (n := (catL M k).length) (K := K) (by rw [hK, kit_length]) hS'
      have hSo := sorted_any a (catL M k).length cap _ _ wr hI (by omega)
      rw [can_kit K (catL M k).length (by rw [hK, kit_length])] at hSo
      have hsk : shK M k = srt K := by unfold shK; rw [hK, kis_kit]
      have hsl : (shK M k).length = (catL M k).length := by rw [hsk, (srt_perm _).length_eq, hK, kit_length]
      rw [← hsk] at hSo
      have HB := hidq hB
      have HL := hidq hsl
      clear hB hI hsk hsl hK hS hA hS'
      generalize hn1 : (catL M k).length = n1 at *
      go_wp2_with fail
      refine hSo.mono ?_
      rintro e w1 ⟨g, rfl, hg, hR, hb1⟩
      have HE := hidq (And.intro hR (And.intro hg hb1))
      clear hR hg hb1 hSo
      go_wp2
      go_ret
      obtain ⟨hR, hg, hb1⟩ := HE.out
      have q1 := HB.out.size
      refine ⟨some ⟨g, 0, none⟩, n1, by rw [HL.out]; rfl, .inr ⟨g, rfl, ?_⟩, fun j hj => ?_, HB.out.trans (hb1.mono q1)⟩
      · have := row_flat hR
        rw [HL.out] at this ⊢
        exact this
      · obtain ⟨x, hx, hxj⟩ := hj
        cases hx
        have : g = j := hxj
        omega
end Go.Proofs.YtbcmilfajeanbaaGreat

namespace Go.Proofs.YtbcmilfajeanbaaGreat
open Go.RowKit Go.Sort Go.Lib

theorem flatMap_get {α : Type} (enc : α → List Value) (k : Nat) (hl : ∀ x, (enc x).length = k) : ∀ (l : List α) (i j : Nat) (hi : i < l.length), j < k → (l.flatMap enc)[i * k + j]? = (enc l[i])[j]?
  | x :: l, 0, j, _, hj => by
    rw [List.flatMap_cons, Nat.zero_mul, Nat.zero_add, List.getElem?_append_left (by rw [hl]; exact hj)]
    rfl
  | x :: l, i + 1, j, hi, hj => by
    have e : (i + 1) * k + j - k = i * k + j := by rw [Nat.succ_mul]; omega
    rw [List.flatMap_cons, List.getElem?_append_right (by rw [hl, Nat.succ_mul]; omega), hl, e]
    exact flatMap_get enc k hl l i j (by simpa using hi) hj
theorem flatMap_len {α : Type} (enc : α → List Value) (k : Nat) (hl : ∀ x, (enc x).length = k) : ∀ l : List α, (l.flatMap enc).length = l.length * k
  | [] => by simp
  | x :: l => by rw [List.flatMap_cons, List.length_append, hl, flatMap_len enc k hl l, List.length_cons, Nat.succ_mul]; omega

/-- A cell that is full: its version, its items, where they lie. -/
structure FC where
  ver : Int
  K : List KI
  a : Option Addr
  cap : Nat
abbrev FC.l (x : FC) : List Value := [.int .u64 x.ver, .int .i64 1, .slice x.a x.K.length x.cap]
theorem FC.len (x : FC) : x.l.length = 3 := rfl
def FC.key (x : FC) : Int × List KI := (x.ver, x.K)
/-- Of the first cells those that are full. -/
def fullK (M : Mem) : Nat → List (Int × List KI)
  | 0 => []
  | k + 1 => fullK M k ++ (if 2 ≤ k ∧ (M.cell k).n = 1 then [((M.cell k).ver, kis (M.cell k).L)] else [])
/-- By versions. -/
def byVer (p q : Int × List KI) : Bool := !decide (q.1 < p.1)
/-- The items of all slots. -/
def slK (M : Mem) : List KI := ((fullK M (max M.len 2)).mergeSort byVer).flatMap (fun p => p.2)
theorem fullK_mem {M : Mem} : ∀ {k : Nat} {p : Int × List KI}, p ∈ fullK M k → ∃ i, i < k ∧ 2 ≤ i ∧ (M.cell i).n = 1 ∧ p = ((M.cell i).ver, kis (M.cell i).L)
  | 0, p, h => by cases h
  | k + 1, p, h => by
    rcases List.mem_append.1 h with h | h
    · obtain ⟨i, h1, h2⟩ := fullK_mem h
      exact ⟨i, by omega, h2⟩
    · split at h
      · next e => exact ⟨k, by omega, e.1, e.2, List.mem_singleton.1 h⟩
      · cases h
theorem fullK_len (M : Mem) : ∀ k, (fullK M k).length ≤ k
  | 0 => Nat.le_refl _
  | k + 1 => by
    have := fullK_len M k
    show (fullK M k ++ _).length ≤ _
    rw [List.length_append]
    split
    · simp; omega
    · simp; omega
theorem fullK_nodup {M : Mem} (h : ∀ i j, (M.cell i).ver = (M.cell j).ver → ¬ (M.cell i).ver = 0 → i = j) (h0 : ∀ i, ¬ (M.cell i).n = 0 → ¬ (M.cell i).ver = 0) : ∀ k, (fullK M k).Pairwise (fun p q => p.1 ≠ q.1)
  | 0 => List.Pairwise.nil
  | k + 1 => by
    show (fullK M k ++ _).Pairwise _
    refine List.pairwise_append.2 ⟨fullK_nodup h h0 k, ?_, fun p hp q hq e => ?_⟩
    · split
      · exact List.pairwise_singleton _ _
      · exact List.Pairwise.nil
    · split at hq
      · next hk =>
        rw [List.mem_singleton] at hq
        subst hq
        obtain ⟨i, h1, _, h3, rfl⟩ := fullK_mem hp
        have := h i k e (h0 i (by rw [h3]; decide))
        omega
      · cases hq

theorem plainCe : PlainK Tryz.prog 3 111 94 := by
  have h : (Tryz.prog.info? 94).map (fun i => (i.zero, i.size, i.bytes)) = some (some (.agg #[.int .u64 0, .int .i64 0, .slice none 0 0]), 3, 40) := by kernel_rfl
  obtain ⟨i, hi, he⟩ := Option.map_eq_some_iff.1 h
  simp only [Prod.mk.injEq] at he
  exact ⟨i, _, Tryz.underlying111, hi, he.1, he.2.1, rfl, by rw [he.2.2]; decide⟩

/-- How the full ones lie. -/
structure FCs (w0 w : World) (a : Option Addr) (cap : Nat) (fs : List FC) : Prop where
  sl : SlAt 3 w a cap fs.length (fs.flatMap FC.l)
  its : ∀ x ∈ fs, SlAt 2 w x.a x.cap x.K.length (flatI (kit x.K)) ∧ ∀ j, inB x.a j → ¬ inB a j
  up : ∀ j, inB a j → w0.heap.size ≤ j
theorem FCs.below {w0 w w' : World} {a : Option Addr} {cap : Nat} {fs : List FC} (h : FCs w0 w a cap fs) (hb : Below w.heap.size w w') : FCs w0 w' a cap fs :=
  ⟨h.sl.below hb, fun x hx => ⟨(h.its x hx).1.below hb, (h.its x hx).2⟩, h.up⟩


theorem FCs.push {w0 w w' : World} {a a' : Option Addr} {cap cap' : Nat} {fs : List FC} {x : FC} (h : FCs w0 w a cap fs) (h0 : w0.heap.size ≤ w.heap.size) (hx : SlAt 2 w x.a x.cap x.K.length (flatI (kit x.K))) (hxa : ∀ j, inB x.a j → ¬ inB a j)
    (hS : SlAt 3 w' a' cap' (fs.length + 1) (fs.flatMap FC.l ++ x.l)) (hb : But (inB a) w w') (hi : ∀ j, inB a' j → inB a j ∨ w.heap.size ≤ j) : FCs w0 w' a' cap' (fs ++ [x]) := by
  refine ⟨?_, fun y hy => ?_, fun j hj => ?_⟩
  · rw [List.flatMap_append, List.length_append]
    simpa using hS
  · rcases List.mem_append.1 hy with hy | hy
    · obtain ⟨h1, h2⟩ := h.its y hy
      refine ⟨h1.but hb (fun j hj => h2 j hj), fun j hj e => ?_⟩
      rcases hi j e with q | q
      · exact h2 j hj q
      · have := h1.lt j hj; omega
    · rw [List.mem_singleton] at hy
      subst hy
      refine ⟨hx.but hb (fun j hj => hxa j hj), fun j hj e => ?_⟩
      rcases hi j e with q | q
      · exact hxa j hj q
      · have := hx.lt j hj; omega
  · rcases hi j hj with q | q
    · exact h.up j q
    · omega

end Go.Proofs.YtbcmilfajeanbaaGreat

namespace Go.Proofs
open Go.Shelf
def Tryz.sortCe_ren : Go.Shelf.Ren := ⟨fun | 6 => 83 | 15 => 96 | 14 => 95 | 28 => 112 | 29 => 113 | 20 => 104 | 21 => 105 | 22 => 106 | 23 => 107 | 24 => 108 | 25 => 109 | 26 => 110 | 27 => 111 | 46 => 124 | 47 => 125 | 48 => 126 | 49 => 127 | 50 => 128 | 57 => 134 | n => n, fun | 22 => 111 | 24 => 94 | 25 => 164 | 3 => 3 | 39 => 176 | 0 => 0 | 53 => 193 | 55 => 30 | 4 => 4 | 46 => 186 | 45 => 185 | 50 => 190 | 5 => 5 | 9 => 9 | 66 => 202 | 70 => 205 | 76 => 210 | 77 => 24 | n => n, fun | n => n⟩
theorem Tryz.sortCe : Go.Proofs.SlLaysF0.n6 Tryz.prog Tryz.sortCe_ren := {
  mixed := by kernel_rfl
  f6 := ⟨Tryz.f83.name, by decide, Tryz.func83.trans (congrArg some (by kernel_rfl))⟩
  f14 := ⟨Tryz.f95.name, by decide, Tryz.func95.trans (congrArg some (by kernel_rfl))⟩
  f15 := Tryz.func96.trans (congrArg some (by kernel_rfl))
  f20 := ⟨Tryz.f104.name, by decide, Tryz.func104.trans (congrArg some (by kernel_rfl))⟩
  f21 := ⟨Tryz.f105.name, by decide, Tryz.func105.trans (congrArg some (by kernel_rfl))⟩
  f22 := ⟨Tryz.f106.name, by decide, Tryz.func106.trans (congrArg some (by kernel_rfl))⟩
  f23 := ⟨Tryz.f107.name, by decide, Tryz.func107.trans (congrArg some (by kernel_rfl))⟩
  f24 := ⟨Tryz.f108.name, by decide, Tryz.func108.trans (congrArg some (by kernel_rfl))⟩
  f25 := ⟨Tryz.f109.name, by decide, Tryz.func109.trans (congrArg some (by kernel_rfl))⟩
  f26 := ⟨Tryz.f110.name, by decide, Tryz.func110.trans (congrArg some (by kernel_rfl))⟩
  f27 := ⟨Tryz.f111.name, by decide, Tryz.func111.trans (congrArg some (by kernel_rfl))⟩
  f28 := Tryz.func112.trans (congrArg some (by kernel_rfl))
  f29 := Tryz.func113.trans (congrArg some (by kernel_rfl))
  f46 := ⟨Tryz.f124.name, by decide, Tryz.func124.trans (congrArg some (by kernel_rfl))⟩
  f47 := Tryz.func125.trans (congrArg some (by kernel_rfl))
  f48 := Tryz.func126.trans (congrArg some (by kernel_rfl))
  f49 := ⟨Tryz.f127.name, by decide, Tryz.func127.trans (congrArg some (by kernel_rfl))⟩
  f50 := ⟨Tryz.f128.name, by decide, Tryz.func128.trans (congrArg some (by kernel_rfl))⟩
  f57 := ⟨Tryz.f134.name, by decide, Tryz.func134.trans (congrArg some (by kernel_rfl))⟩
  t0 := Tryz.underlying0
  a0 := Tryz.isAgg0
  z0 := Tryz.sizeOf0
  v0 := Tryz.zeroValue0
  t3 := Tryz.underlying3
  a3 := Tryz.isAgg3
  z3 := Tryz.sizeOf3
  v3 := Tryz.zeroValue3
  t4 := Tryz.underlying4
  a4 := Tryz.isAgg4
  z4 := Tryz.sizeOf4
  v4 := Tryz.zeroValue4
  t5 := Tryz.underlying5
  a5 := Tryz.isAgg5
  z5 := Tryz.sizeOf5
  v5 := Tryz.zeroValue5
  t9 := Tryz.underlying9
  a9 := Tryz.isAgg9
  z9 := Tryz.sizeOf9
  v9 := Tryz.zeroValue9
  t22 := Tryz.underlying111
  a22 := Tryz.isAgg111
  z22 := Tryz.sizeOf111
  v22 := Tryz.zeroValue111
  t25 := Tryz.underlying164
  a25 := Tryz.isAgg164
  z25 := Tryz.sizeOf164
  v25 := Tryz.zeroValue164
  t39 := Tryz.underlying176
  a39 := Tryz.isAgg176
  z39 := Tryz.sizeOf176
  v39 := Tryz.zeroValue176
  t45 := Tryz.underlying185
  a45 := Tryz.isAgg185
  z45 := Tryz.sizeOf185
  v45 := Tryz.zeroValue185
  t46 := Tryz.underlying186
  a46 := Tryz.isAgg186
  z46 := Tryz.sizeOf186
  v46 := Tryz.zeroValue186
  t50 := Tryz.underlying190
  a50 := Tryz.isAgg190
  z50 := Tryz.sizeOf190
  v50 := Tryz.zeroValue190
  t53 := Tryz.underlying193
  a53 := Tryz.isAgg193
  z53 := Tryz.sizeOf193
  v53 := Tryz.zeroValue193
  t55 := Tryz.underlying30
  a55 := Tryz.isAgg30
  z55 := Tryz.sizeOf30
  v55 := Tryz.zeroValue30
  t66 := Tryz.underlying202
  a66 := Tryz.isAgg202
  z66 := Tryz.sizeOf202
  v66 := Tryz.zeroValue202
  t70 := Tryz.underlying205
  a70 := Tryz.isAgg205
  z70 := Tryz.sizeOf205
  v70 := Tryz.zeroValue205
  t76 := Tryz.underlying210
  a76 := Tryz.isAgg210
  z76 := Tryz.sizeOf210
  v76 := Tryz.zeroValue210
  t77 := Tryz.underlying24
  a77 := Tryz.isAgg24
  z77 := Tryz.sizeOf24
  v77 := Tryz.zeroValue24 }
end Go.Proofs

namespace Go.Proofs.YtbcmilfajeanbaaGreat
open Go.RowKit Go.Sort Go.Lib

theorem cfC_lt (x y : Int) : decide (cmpI x y < 0) = decide (x < y) := by
  unfold cmpI
  split
  · next h => simp [h]
  · next h =>
    split
    · next h2 => simp; omega
    · next h2 => simp; omega
theorem closureC_any (x y : FC) (W : World) : Calls Tryz.prog 84 #[.agg x.l.toArray, .agg y.l.toArray] W fun e w' => e = .returned (.int .i64 (cmpI x.ver y.ver)) ∧ ∃ q os', w' = grow (W.drewN q) os' := by
  have hC := fun w => compare64_any x.ver y.ver w
  generalize cmpI x.ver y.ver = c at *
  obtain ⟨v, K, a, cap⟩ := x
  obtain ⟨v2, K2, a2, cap2⟩ := y
  dsimp only at *
  generalize K.length = n at *
  generalize K2.length = n2 at *
  go_enter Tryz.func84, Tryz.ntmps84
  go_wp2_with (go_at_call 55; refine (hC _).mono ?_; rintro e w' ⟨rfl, hw⟩; replace hw := hw.symm; subst hw)
  go_ret
  exact ⟨rfl, 0, _, by rw [alloc_eq_grow, alloc_eq_grow, grow_grow]; rfl⟩

section
variable {α : Type} [Inhabited α]
theorem flatK_at (enc : α → List Value) (k : Nat) (hk : 0 < k) (hl : ∀ x, (enc x).length = k) (d : Array α) (t : Nat) (ht : t < d.size * k) : (d.toList.flatMap enc)[t]? = some ((flatK enc k d)[t]!) := by
  have h1 : t / k < d.size := (Nat.div_lt_iff_lt_mul hk).2 ht
  have h2 : t % k < k := Nat.mod_lt _ hk
  have e : t = t / k * k + t % k := by have := Nat.div_add_mod t k; rw [Nat.mul_comm] at this; omega
  rw [get_flatK _ _ _ _ ht]
  conv => lhs; rw [e]
  rw [flatMap_get enc k hl d.toList (t / k) (t % k) (by simpa using h1) h2, getElem!_pos d (t / k) h1, Array.getElem_toList, List.getElem?_eq_getElem (by rw [hl]; exact h2), getElem!_pos _ _ (by rw [hl]; exact h2)]
theorem flat_holds (enc : α → List Value) (k : Nat) (hk : 0 < k) (hl : ∀ x, (enc x).length = k) {w : World} {g cap : Nat} {d : Array α} (h : Flat k w g cap d.size (d.toList.flatMap enc)) : HoldsK enc k w g 0 d := by
  intro j hj
  rw [size_flatK] at hj
  have hle : d.size * k ≤ cap * k := Nat.mul_le_mul_right _ h.le
  rw [Nat.zero_add]
  exact ⟨h.cell j _ (flatK_at enc k hk hl d j hj), (h.there j (by omega)).2⟩
theorem but_sortK (enc : α → List Value) (k : Nat) (w : World) (g n : Nat) (d : Array α) (os : Array Obj) : But (fun k => k = g) w (sortWorldK enc k w g 0 n d os) := by
  refine ⟨rfl, rfl, rfl, ?_, ?_⟩
  · unfold sortWorldK putRowK
    rw [size_grow, size_putRow]
    exact Nat.le_add_right _ _
  · intro j hj hn
    unfold sortWorldK putRowK
    rw [heap_grow_old _ _ (by rw [size_putRow]; exact hj)]
    unfold putRow mapBlock
    show (w.heap.modify g _)[j]? = _
    rw [Array.getElem?_modify, if_neg (fun e => hn e.symm)]
theorem flat_sort (enc : α → List Value) (k : Nat) (hk : 0 < k) (hl : ∀ x, (enc x).length = k) (h1 : ∀ x, ∀ v ∈ enc x, v.oneCell' = true) {w : World} {g cap m : Nat} {d d' : Array α} (h : Flat k w g cap d.size (d.toList.flatMap enc)) (hs : d'.size = d.size) (os : Array Obj) : Flat k (sortWorldK enc k w g 0 m d' os) g cap d.size (d'.toList.flatMap enc) := by
  have hb := but_sortK enc k w g m d' os
  have hlt : g < (putRow id (Sort.ahead w m) g 0 (flatK enc k d')).heap.size := by rw [size_putRow]; exact h.lt
  have hH00 := flat_holds enc k hk hl h
  have hH0 : Holds id (Sort.ahead w m) g 0 (flatK enc k d) := hH00
  have hH : Holds id (sortWorldK enc k w g 0 m d' os) g 0 (flatK enc k d') :=
    holds_grow id _ os g 0 _ hlt (holds_putRow id (Sort.ahead w m) g 0 _ _ hH0 (by rw [size_flatK, size_flatK, hs]))
  have hln : (d'.toList.flatMap enc).length = d'.size * k := by rw [flatMap_len enc k hl]; simp
  refine ⟨Nat.lt_of_lt_of_le h.lt hb.size, by rw [hln, hs], h.le, h.cmax, fun t u hu => ?_, fun u hu => ?_, fun j hj => ?_⟩
  · have ht : t < d'.size * k := by rw [← hln]; exact (List.getElem?_eq_some_iff.1 hu).1
    rw [flatK_at enc k hk hl d' t ht] at hu
    cases hu
    have := (hH t (by rw [size_flatK]; exact ht)).1
    rw [Nat.zero_add] at this
    exact this
  · obtain ⟨x, _, hx⟩ := List.mem_flatMap.1 hu
    exact h1 x u hx
  · have hp := h.there j hj
    by_cases hj2 : j < (flatK enc k d').size
    · have := hH j hj2
      rw [Nat.zero_add] at this
      exact ⟨by rw [this.1]; rfl, this.2⟩
    · unfold sortWorldK putRowK
      rw [cell?_grow _ _ _ hlt, frozen?_grow _ _ _ hlt, cell?_putRow_other _ _ _ _ _ _ (.inr (.inr (by show 0 + (flatK enc k d').size ≤ j; omega))), frozen?_putRow]
      exact hp
end

theorem inj_of {fs : List FC} (h : fs.Pairwise (fun x y => x.ver ≠ y.ver)) : ∀ x ∈ fs, ∀ y ∈ fs, x.ver = y.ver → x = y := by
  induction fs with
  | nil => intro x hx; cases hx
  | cons z l ih =>
    obtain ⟨h1, h2⟩ := List.pairwise_cons.1 h
    intro x hx y hy e
    rcases List.mem_cons.1 hx with q | q <;> rcases List.mem_cons.1 hy with q' | q'
    · rw [q, q']
    · rw [q] at e; exact absurd e (h1 y q')
    · rw [q'] at e; exact absurd e.symm (h1 x q)
    · exact ih h2 x q y q' e

theorem sortCe_any (g cap : Nat) (fs : List FC) (W : World) (hF : Flat 3 W g cap fs.length (fs.flatMap FC.l)) (hd : fs.Pairwise (fun x y => x.ver ≠ y.ver)) (h0 : 0 < fs.length) (hn : fs.length ≤ 1000) :
    Calls Tryz.prog 83 #[.slice (some ⟨g, 0, none⟩) fs.length cap, .func (.func 84) #[] #[]] W fun e w' =>
      e = .returned (.tuple #[]) ∧ ∃ fs' : List FC, fs'.map FC.key = (fs.map FC.key).mergeSort byVer ∧ fs'.Perm fs ∧ Flat 3 w' g cap fs.length (fs'.flatMap FC.l) ∧ But (fun j => j = g) W w' := by
  have hinj := inj_of hd
  letI : Inhabited {x // x ∈ fs} := ⟨⟨fs[0], List.getElem_mem h0⟩⟩
  let enc : {x // x ∈ fs} → List Value := fun x => x.1.l
  let cf : {x // x ∈ fs} → {x // x ∈ fs} → Int := fun x y => cmpI x.1.ver y.1.ver
  let d : Array {x // x ∈ fs} := fs.attach.toArray
  have hl : ∀ x, (enc x).length = 3 := fun _ => rfl
  have hds : d.size = fs.length := by simp [d]
  have h1 : ∀ x, ∀ v ∈ enc x, v.oneCell' = true := fun x v hv => by
    simp [enc] at hv
    rcases hv with rfl | rfl | rfl <;> rfl
  have hfl : ∀ l : List {x // x ∈ fs}, l.flatMap enc = (l.map Subtype.val).flatMap FC.l := fun l => by rw [List.flatMap_map]
  have hF' : Flat 3 W g cap d.size (d.toList.flatMap enc) := by
    rw [hds, hfl, show d.toList = fs.attach from rfl, List.attach_map_subtype_val]
    exact hF
  have hlt : ∀ x y, ltOf cf x y = decide (x.1.ver < y.1.ver) := fun x y => cfC_lt _ _
  have hO : SWO (ltOf cf) := by
    refine ⟨fun x => ?_, fun x y z e1 e2 => ?_, fun x y z e1 e2 => ?_⟩
    · rw [hlt]; exact decide_eq_false (by omega)
    · rw [hlt] at *
      have a := of_decide_eq_true e1
      have b := of_decide_eq_true e2
      exact decide_eq_true (by omega)
    · rw [hlt] at *
      have a := of_decide_eq_false e1
      have b := of_decide_eq_false e2
      exact decide_eq_false (by omega)
  have hT : ∀ x y, (ltOf cf) x y = false → (ltOf cf) y x = false → x = y := fun x y e1 e2 => by
    rw [hlt] at *
    have a := of_decide_eq_false e1
    have b := of_decide_eq_false e2
    exact Subtype.ext (hinj x.1 x.2 y.1 y.2 (by omega))
  have eg : ∀ args w, (callFunc 84 args).run Tryz.prog w = .ok (.enter 84 args) w := enters_of Tryz.func84 (by kernel_rfl) rfl
  have hcl : CmpLays Tryz.prog 84 #[] enc 3 cf g 0 d.size W := fun _ _ _ _ x y => closureC_any x.1 y.1 _
  have := AnyQ.slices_SortFunc_total Tryz.sortCe 3 Tryz.isAgg94 Tryz.sizeOf94 enc hl h1 cf hO 84 #[] g 0 cap d W eg hcl (flat_holds enc 3 (by decide) hl hF') hF.lt (by rw [hds]; omega) hT
  rw [hds] at this
  refine Calls.mono this ?_
  rintro e w' ⟨rfl, m, os, rfl⟩
  refine ⟨rfl, (d.toList.mergeSort fun x y => !(ltOf cf) y x).map Subtype.val, ?_, ?_, ?_, ?_⟩
  · rw [List.map_map, List.map_mergeSort (s := byVer) (fun x _ y _ => ?_)]
    · rw [show d.toList = fs.attach from rfl, ← List.map_map, List.attach_map_subtype_val]
    · show (!(ltOf cf) y x) = byVer _ _
      rw [hlt]; rfl
  · have := (List.mergeSort_perm d.toList (fun x y => !(ltOf cf) y x)).map Subtype.val
    rw [show d.toList = fs.attach from rfl, List.attach_map_subtype_val] at this
    exact this
  · have := flat_sort enc 3 (by decide) hl h1 (m := m) (d' := (d.toList.mergeSort fun x y => !(ltOf cf) y x).toArray) hF' (by simp [List.length_mergeSort]) os
    rw [hfl, hds] at this
    rw [hds] at *
    exact this
  · have := but_sortK enc 3 W g m (d.toList.mergeSort fun x y => !(ltOf cf) y x).toArray os
    exact this
/-- Of any number. -/
theorem sortC_any (w0 W : World) (a : Option Addr) (cap : Nat) (fs : List FC) (hF : FCs w0 W a cap fs) (hd : fs.Pairwise (fun x y => x.ver ≠ y.ver)) (hn : fs.length ≤ 1000) :
    Calls Tryz.prog 83 #[.slice a fs.length cap, .func (.func 84) #[] #[]] W fun e w' =>
      e = .returned (.tuple #[]) ∧ ∃ fs' : List FC, fs'.map FC.key = (fs.map FC.key).mergeSort byVer ∧ fs'.length = fs.length ∧ FCs w0 w' a cap fs' ∧ But (inB a) W w' := by
  by_cases h0 : 0 < fs.length
  · rcases hF.sl with ⟨_, _, hz, _⟩ | ⟨g, rfl, hf⟩
    · omega
    · refine (sortCe_any g cap fs W hf hd h0 hn).mono ?_
      rintro e w' ⟨rfl, fs', h1, h2, h3, h4⟩
      have h4' : But (inB (some ⟨g, 0, none⟩)) W w' := h4.mono (fun j _ e => ⟨_, rfl, e.symm⟩)
      refine ⟨rfl, fs', h1, h2.length_eq, ⟨.inr ⟨g, rfl, by rw [h2.length_eq]; exact h3⟩, fun x hx => ?_, hF.up⟩, h4'⟩
      obtain ⟨q1, q2⟩ := hF.its x (h2.mem_iff.1 hx)
      exact ⟨q1.but h4' q2, q2⟩
  · have hz : fs = [] := List.eq_nil_of_length_eq_zero (by omega)
    subst hz
    refine (AnyF.slices_SortFunc_none Tryz.sortCe a cap _ W).mono ?_
    rintro e w' ⟨rfl, rfl⟩
    exact ⟨rfl, [], by simp, rfl, hF, But.refl _ _⟩
end Go.Proofs.YtbcmilfajeanbaaGreat

namespace Go.Proofs.YtbcmilfajeanbaaGreat
open Go.RowKit Go.Sort

theorem len5_any (b : Nat) (O : Nat → Prop) (M : Mem) (w : World) (h : MemAt w b O M) : Calls Tryz.prog 82 #[.pointer (some ⟨b, 0, none⟩)] w fun e w' => e = .returned (.int .i64 (M.len : Int)) ∧ w' = w := by
  obtain ⟨a, cap, A, C, hr⟩ := h.row
  have hd := hr.hd
  clear hr h
  go_enter Tryz.func82, Tryz.ntmps82
  go_wp2
  go_ret
  exact ⟨rfl, rfl⟩
theorem clock5_any (b : Nat) (O : Nat → Prop) (M : Mem) (w : World) (h : MemAt w b O M) : Calls Tryz.prog 16 #[.pointer (some ⟨b, 0, none⟩)] w fun e w' => e = .returned (.int .u64 (M.clock : Int)) ∧ w' = w := by
  have hd := h.clk
  clear h
  go_enter Tryz.func16, Tryz.ntmps16
  go_wp2
  go_ret
  exact ⟨rfl, rfl⟩
end Go.Proofs.YtbcmilfajeanbaaGreat

namespace Go.Proofs.YtbcmilfajeanbaaGreat
open Go.RowKit Go.Sort Go.Lib

theorem fs_src {w : World} {a : Option Addr} {cap n : Nat} {L : List It} (h : SlAt 2 w a cap n (flatI L)) : Src Tryz.prog 2 52 (.slice a n cap) n (flatI L) w := h.src Tryz.underlying52

set_option maxRecDepth 20000 in
set_option maxHeartbeats 4000000 in
theorem inSlots_any (b : Nat) (O : Nat → Prop) (M : Mem) (w : World) (h : MemAt w b O M) (hM : KM M ∧ (fullK M (max M.len 2)).Pairwise (fun p q => p.1 ≠ q.1)) :
    Calls Tryz.prog 60 #[.pointer (some ⟨b, 0, none⟩)] w fun e w' => ∃ a cap, e = .returned (.slice a (slK M).length cap) ∧ SlAt 2 w' a cap (slK M).length (flatI (kit (slK M))) ∧ (∀ j, inB a j → w.heap.size ≤ j) ∧ Below w.heap.size w w' := by
  have HM := hidq (And.intro h (And.intro hM h.max))
  have hLn := hidq (fun W (hW : Below w.heap.size w W) => len5_any b O M W (h.below hW))
  have hfd := cell_value
  have hfn := value_n
  clear h hM
  go_enter Tryz.func60, Tryz.ntmps60
  go_wp2
  go_loopw [3, 4] (fun l i wr => ∃ (k : Nat) (a : Option Addr) (cap : Nat) (fs : List FC), l = .slice a fs.length cap ∧ i = .int .i64 (k : Int) ∧ 2 ≤ k ∧ k ≤ max M.len 2 ∧ FCs w wr a cap fs ∧ fs.map FC.key = fullK M k ∧ Below w.heap.size w wr) (fun _ i _ => max M.len 2 - (intOf i).toNat)
  case atStart => exact ⟨2, none, 0, [], rfl, rfl, Nat.le_refl _, by omega, ⟨SlAt.nil _ _, fun x hx => (by cases hx), fun j hj => by obtain ⟨x, hx, _⟩ := hj; cases hx⟩, rfl, Below.refl _ _⟩
  case round =>
    obtain ⟨k, a, cap, fs, rfl, rfl, hk2, hk, hF, hK, hB⟩ := hrel
    have hfl : fs.length ≤ k := by have := fullK_len M k; rw [← hK, List.length_map] at this; exact this
    have hL := hLn.out wr hB
    have hmx := HM.out.2.2
    by_cases hlt : k < M.len
    · have hR := hidq (read5_any b O M (k : Int) wr (HM.out.1.below hB))
      rw [look_nat] at hR
      have hd : (k : Int) < (M.len : Int) := by omega
      by_cases hone : (M.cell k).n = 1
      · obtain ⟨x, hx⟩ := HM.out.2.1.1.2 k hk2 hone
        have hT : fullK M (k + 1) = fullK M k ++ [((M.cell k).ver, [x])] := by
          show fullK M k ++ _ = _
          rw [if_pos ⟨hk2, hone⟩, hx, kis_kit]
        have HT := hidq (And.intro hT hK)
        have HB := hidq hB
        have HF := hidq hF
        rw [hone, hx] at hR
        simp only [kit_length, List.length_singleton] at hR
        clear hT hK hB hF hx hone
        generalize hn1 : fs.length = n1 at *
        generalize (M.cell k).ver = vr at *
        go_wp2_with fail
        refine hL.mono ?_
        rintro e w0 ⟨rfl, hw⟩
        replace hw := hw.symm
        subst hw
        clear hL
        go_wp2_with fail
        refine hR.out.mono ?_
        rintro e w1 ⟨a', cap', rfl, hS2, hA2, hb1⟩
        have HE := hidq (show Below wr.heap.size wr w1 ∧ SlAt 2 w1 a' cap' 1 (flatI (kit [x])) ∧ ∀ j, inB a' j → wr.heap.size ≤ j from ⟨hb1, hS2, hA2⟩)
        clear hS2 hA2 hb1 hR
        have HU := hidq (show Below w1.heap.size w1 ((w1.alloc (.cells #[.int .u64 vr, .int .i64 1, .slice a' 1 cap'] 94)).alloc (.cells #[.int .u64 vr, .int .i64 1, .slice a' 1 cap'] 94)) from ((Below.refl _ _).alloc (Nat.le_refl _) _).alloc (by simp) _)
        go_wp2_with (at_builtin; refine wpList_sla plainCe _ rfl (.tmp 22) (.tmp 24) rfl a cap n1 (fs.flatMap FC.l) rfl (by rw [← hn1]; exact (HF.out.sl.below HE.out.1).below HU.out) _ rfl 1 [.int .u64 vr, .int .i64 1, .slice a' 1 cap'] (src_new 3 _ Tryz.underlying111 (w1.heap.size + 1) [.int .u64 vr, .int .i64 1, .slice a' 1 cap'] rfl (fun j u hu => by have := World.cell?_alloc_new (w1.alloc (.cells #[.int .u64 vr, .int .i64 1, .slice a' 1 cap'] 94)) #[.int .u64 vr, .int .i64 1, .slice a' 1 cap'] 94 j; rw [World.size_alloc] at this; rw [this]; simpa using hu) (by intro u hu; simp at hu; rcases hu with rfl | rfl | rfl <;> rfl)) (by omega) ?_; intro a3 c3 w3 h3 h3b h3i)
        go_roundw
        case rel =>
          have hF2 := (HF.out.below HE.out.1).below HU.out
          have q0 := HB.out.size
          have q1 := HE.out.1.size
          have q2 := HU.out.size
          refine ⟨k + 1, a3, c3, fs ++ [⟨vr, [x], a', cap'⟩], by rw [List.length_append, hn1]; rfl, by go_num, by omega, by omega, ?_, ?_, ?_⟩
          · refine hF2.push (by omega) (HE.out.2.1.below HU.out) (fun j hj e => ?_) (by rw [hn1]; exact h3) h3b h3i
            have e1 := HE.out.2.2 j hj
            have e2 := HF.out.sl.lt j e
            omega
          · rw [List.map_append, HT.out.2, HT.out.1]; rfl
          · exact ((HB.out.trans (HE.out.1.mono q0)).trans (HU.out.mono (by omega))).trans (h3b.below (by omega) (fun j hj => HF.out.up j hj))
        case measure => simp [intOf]; omega
      · have hT : fullK M (k + 1) = fullK M k := by
          show fullK M k ++ _ = _
          rw [if_neg (fun e => hone e.2), List.append_nil]
        have hb1 : ((M.cell k).n == 1) = false := by simpa using hone
        have HT := hidq (And.intro hT hK)
        have HB := hidq hB
        have HF := hidq hF
        clear hT hK hB hF hone
        generalize hn1 : fs.length = n1 at *
        generalize (M.cell k).ver = vr at *
        generalize (M.cell k).n = nn at *
        generalize (M.cell k).L = ll at *
        go_wp2_with fail
        refine hL.mono ?_
        rintro e w0 ⟨rfl, hw⟩
        replace hw := hw.symm
        subst hw
        clear hL
        go_wp2_with fail
        refine hR.out.mono ?_
        rintro e w1 ⟨a', cap', rfl, hS2, hA2, hbb⟩
        have HE := hidq hbb
        clear hS2 hA2 hbb hR
        go_wp2
        go_roundw
        case rel =>
          have q0 := HB.out.size
          have hba := ((Below.refl _ w1).alloc (Nat.le_refl _) (.cells #[.int .u64 vr, .int .i64 nn, .slice a' ll.length cap'] 94))
          refine ⟨k + 1, a, cap, fs, by rw [hn1], by go_num, by omega, by omega, (HF.out.below HE.out).below hba, by rw [HT.out.2, HT.out.1], (HB.out.trans (HE.out.mono q0)).trans (hba.mono (by have := HE.out.size; omega))⟩
        case measure => simp [intOf]; omega
    · have hkM : k = max M.len 2 := by omega
      have hd : decide ((k : Int) < (M.len : Int)) = false := decide_eq_false (by omega)
      have hpw : fs.Pairwise (fun x y => x.ver ≠ y.ver) := by
        have := HM.out.2.1.2
        rw [← hkM, ← hK, List.pairwise_map] at this
        exact this
      have hSo := sortC_any w wr a cap fs hF hpw (by omega)
      have hKK : (fullK M k).mergeSort byVer = (fs.map FC.key).mergeSort byVer := by rw [hK]
      have hone : ∀ p ∈ fullK M k, p.2.length = 1 := fun p hp => by
        obtain ⟨i, _, h2, h3, rfl⟩ := fullK_mem hp
        obtain ⟨x, hx⟩ := HM.out.2.1.1.2 i h2 h3
        show (kis (M.cell i).L).length = 1
        rw [hx, kis_kit]; rfl
      have hsl : slK M = ((fs.map FC.key).mergeSort byVer).flatMap (fun p => p.2) := by unfold slK; rw [← hkM, hKK]
      have HX := hidq (show (∀ x ∈ fs.map FC.key, x.2.length = 1) ∧ slK M = ((fs.map FC.key).mergeSort byVer).flatMap (fun p => p.2) from ⟨by rw [hK]; exact hone, hsl⟩)
      have HB := hidq (And.intro hB hF.up)
      clear hpw hKK hone hsl hB hF hK hkM
      generalize hn1 : fs.length = n1 at *
      go_wp2_with fail
      refine hL.mono ?_
      rintro e w0 ⟨rfl, hw⟩
      replace hw := hw.symm
      subst hw
      clear hL
      go_wp2_with fail
      refine hSo.mono ?_
      rintro e w2 ⟨rfl, fs', hk', hl', hF', hbt⟩
      have hone' : ∀ x ∈ fs', x.K.length = 1 := fun x hx => by
        have : x.key ∈ (fs.map FC.key).mergeSort byVer := by rw [← hk']; exact List.mem_map_of_mem hx
        exact HX.out.1 _ (List.mem_mergeSort.1 this)
      have HF := hidq (show FCs w w2 a cap fs' ∧ Below w.heap.size w w2 ∧ fs'.length = n1 ∧ (∀ x ∈ fs', x.K.length = 1) ∧ slK M = fs'.flatMap (fun x => x.K) from
        ⟨hF', HB.out.1.trans (hbt.below HB.out.1.size HB.out.2), hl', hone', by rw [HX.out.2, ← hk', List.flatMap_map]; rfl⟩)
      clear hk' hl' hF' hbt hone' hSo HX HB
      go_wp2
      go_loopw [6, 30] (fun l i wr => ∃ (j : Nat) (a2 : Option Addr) (cap2 : Nat), l = .slice a2 ((fs'.take j).flatMap (fun x => x.K)).length cap2 ∧ i = .int .i64 (j : Int) ∧ j ≤ n1 ∧ SlAt 2 wr a2 cap2 ((fs'.take j).flatMap (fun x => x.K)).length (flatI (kit ((fs'.take j).flatMap (fun x => x.K)))) ∧ (∀ q, inB a2 q → w2.heap.size ≤ q) ∧ ((fs'.take j).flatMap (fun x => x.K)).length ≤ j ∧ Below w2.heap.size w2 wr) (fun _ i _ => n1 - (intOf i).toNat)
      case atStart => exact ⟨0, none, 0, rfl, rfl, Nat.zero_le _, SlAt.nil _ _, fun q hq => (by obtain ⟨x, hx, _⟩ := hq; cases hx), Nat.le_refl _, Below.refl _ _⟩
      case round =>
        obtain ⟨j, a2, cap2, rfl, rfl, hj, hS, hA, hlj, hB⟩ := hrel
        obtain ⟨hF', hb2, hl', hone', hslK⟩ := HF.out
        by_cases hlt2 : j < n1
        · have hjl : j < fs'.length := by omega
          obtain ⟨x, hx⟩ : ∃ x, fs'[j] = x := ⟨_, rfl⟩
          have hxm : x ∈ fs' := by rw [← hx]; exact List.getElem_mem hjl
          have hx1 := hone' x hxm
          obtain ⟨hi1, hi2⟩ := hF'.its x hxm
          have hS3 := hF'.sl
          have hg : ∀ q, q < 3 → (fs'.flatMap FC.l)[j * 3 + q]? = x.l[q]? := fun q hq => by rw [flatMap_get FC.l 3 FC.len fs' j q hjl hq, hx]
          obtain ⟨g, rfl, hgl, c0⟩ := hS3.cell (hg 0 (by omega))
          obtain ⟨g', e', _, c1⟩ := hS3.cell (hg 1 (by omega))
          cases e'
          obtain ⟨g', e', _, c2⟩ := hS3.cell (hg 2 (by omega))
          cases e'
          have c0' := (hB.cell (p := ⟨g, j * 3, none⟩) hgl).trans c0
          have c1' := (hB.cell (p := ⟨g, j * 3 + 1, none⟩) hgl).trans c1
          have c2' := (hB.cell (p := ⟨g, j * 3 + 2, none⟩) hgl).trans c2
          have hcap := hS3.le
          rw [hl'] at hcap
          have hgw : g < wr.heap.size := Nat.lt_of_lt_of_le hgl hB.size
          have htk : fs'.take (j + 1) = fs'.take j ++ [x] := by rw [List.take_succ_eq_append_getElem hjl, hx]
          have htl : ((fs'.take (j + 1)).flatMap (fun x => x.K)) = ((fs'.take j).flatMap (fun x => x.K)) ++ x.K := by rw [htk, List.flatMap_append]; simp
          have HI := hidq (show SlAt 2 w2 x.a x.cap x.K.length (flatI (kit x.K)) ∧ ((fs'.take (j + 1)).flatMap (fun x => x.K)) = ((fs'.take j).flatMap (fun x => x.K)) ++ x.K ∧ x.K.length = 1 ∧ (∀ q, inB x.a q → q < w2.heap.size) from ⟨hi1, htl, hx1, hi1.lt⟩)
          have HS := hidq (And.intro hS (And.intro hA hB))
          have k1 : (j : Int) < (n1 : Int) := by omega
          rw [hx1] at c2'
          clear hF' hb2 hl' hone' hslK hi1 hi2 hS3 hg c0 c1 c2 htk htl hS hA hB hx1 hxm hx hjl hgl
          obtain ⟨kl, hkl⟩ : ∃ kl, (fs'.take j).flatMap (fun x => x.K) = kl := ⟨_, rfl⟩
          rw [hkl] at hlj ⊢
          rw [hkl] at HI HS
          generalize hn2 : kl.length = n2 at *
          have HU := hidq (show Below wr.heap.size wr (wr.alloc (.cells #[.int .u64 x.ver, .int .i64 1, .slice x.a 1 x.cap] 94)) from (Below.refl _ _).alloc (Nat.le_refl _) _)
          go_wp2_with (at_builtin; refine wpList_sla plainI _ rfl (.tmp 34) (.tmp 37) rfl a2 cap2 n2 (flatI (kit kl)) rfl (HS.out.1.below HU.out) _ rfl 1 (flatI (kit x.K)) (fs_src (by have := HI.out.1; rw [HI.out.2.2.1] at this; exact (this.below HS.out.2.2).below HU.out)) (by omega) ?_; intro a3 c3 w3 h3 h3b h3i)
          go_roundw
          case rel =>
            have q0 := HS.out.2.2.size
            have q1 := HU.out.size
            refine ⟨j + 1, a3, c3, by rw [HI.out.2.1, List.length_append, HI.out.2.2.1, hn2], by go_num, by omega, ?_, fun q hq => ?_, by rw [HI.out.2.1, List.length_append, HI.out.2.2.1]; omega, ?_⟩
            · rw [HI.out.2.1, List.length_append, HI.out.2.2.1, hn2]
              have : flatI (kit (kl ++ x.K)) = flatI (kit kl) ++ flatI (kit x.K) := by rw [← flatI_append]; simp [kit]
              rw [this]
              exact h3
            · rcases h3i q hq with e | e
              · exact HS.out.2.1 q e
              · omega
            · exact (HS.out.2.2.trans (HU.out.mono q0)).trans (h3b.below (by omega) HS.out.2.1)
          case measure => simp [intOf]; omega
        · have hjn : j = n1 := by omega
          have hd2 : decide ((j : Int) < (n1 : Int)) = false := decide_eq_false (by omega)
          have htk : fs'.take j = fs' := List.take_of_length_le (by omega)
          rw [htk] at hS hlj ⊢
          rw [← hslK] at hS hlj ⊢
          have HE := hidq (And.intro hS (And.intro hA (And.intro hB hb2)))
          clear hS hA hB hb2 hF' hl' hone' hslK htk
          go_wp2
          go_ret
          obtain ⟨hS, hA, hB, hb2⟩ := HE.out
          exact ⟨a2, cap2, rfl, hS, fun q hq => (by have := hA q hq; have := hb2.size; omega), hb2.trans (hB.mono hb2.size)⟩
end Go.Proofs.YtbcmilfajeanbaaGreat

namespace Go.Proofs.YtbcmilfajeanbaaGreat
open Go.RowKit Go.Sort

set_option maxRecDepth 20000 in
set_option maxHeartbeats 2000000 in
theorem wentOut_any (b : Nat) (O : Nat → Prop) (M : Mem) (p : Int) (hp : legal 4 p = 0) (w : World) (h : MemAt w b O M) :
    Calls Tryz.prog 62 #[.pointer (some ⟨b, 0, none⟩), .int .i64 p] w fun e w' => e = .returned (.int .i64 (totA M (nC p.toNat) p.toNat)) ∧ Below w.heap.size w w' := by
  obtain ⟨d, n, hd, hn, rfl⟩ := pow2_ex hp
  have hl : Nat.log2 (2 ^ d) = d := Nat.log2_two_pow
  have hc : nC n = cg d := by unfold nC; rw [hn, hl]
  rw [show ((n : Int)).toNat = n by omega, hc]
  have hcg : cg d ≤ 100 := by
    have : d = 0 ∨ d = 1 ∨ d = 2 ∨ d = 3 ∨ d = 4 := by omega
    rcases this with rfl | rfl | rfl | rfl | rfl <;> decide
  have hn16 : n ≤ 16 := (legal_pow hd hn).2.2
  obtain ⟨q, hq⟩ : ∃ q, cg d = q := ⟨_, rfl⟩
  have hN : ∀ w, Calls Tryz.prog 68 #[.int .i64 (n : Int)] w fun e w' => ∃ ga gc oa oc, e = .returned (.tuple #[.agg #[.int .i64 (n : Int), .slice ga q gc, .slice oa n oc], .int .i64 0]) ∧ Below w.heap.size w w' := fun w => by
    refine (nnew_ok d n hd hn w).mono ?_
    rintro e w1 ⟨ga, gc, oa, oc, he, _, _, _, _, hb⟩
    exact ⟨ga, gc, oa, oc, by rw [← hq]; exact he, hb⟩
  rw [hq] at hcg ⊢
  have hO := fun ga gc oa oc w => nout_any n q gc oc ga oa 0 hcg (by decide) w
  have HT := hidq (fun W (hW : Below w.heap.size w W) => together_any b O M (q : Int) n (by omega) (by omega) W (h.below hW))
  clear h hl hc hp hd hn hq hcg hn16
  go_enter Tryz.func62, Tryz.ntmps62
  go_wp2_with fail
  refine (hN _).mono ?_
  rintro e w1 ⟨ga, gc, oa, oc, rfl, hb⟩
  have HB := hidq hb
  clear hb hN
  go_wp2_with fail
  refine (hO ga gc oa oc _).mono ?_
  rintro e w2 ⟨rfl, hb2⟩
  have HC := hidq hb2
  clear hb2 hO
  go_wp2_with fail
  have q1 := HB.out.size
  have hba := (Below.refl w1.heap.size w1).alloc (Nat.le_refl _) (.cells #[.int .i64 (n : Int), .slice ga q gc, .slice oa n oc] 141)
  have hall : Below w.heap.size w w2 := (HB.out.trans (hba.mono q1)).trans (HC.out.mono (by have := hba.size; omega))
  refine (HT.out _ hall).mono ?_
  rintro e w3 ⟨rfl, hb3⟩
  have HD := hidq (hall.trans (hb3.mono hall.size))
  clear hb3 hall hba HT HC HB
  go_wp2
  go_ret
  exact ⟨rfl, HD.out⟩
end Go.Proofs.YtbcmilfajeanbaaGreat

namespace Go.Proofs.YtbcmilfajeanbaaGreat
open Go.RowKit Go.Sort

/-- The items that a structure holds; the number. -/
def vIt (kind param : Int) (M : Mem) : List KI := if kind = 1 then shK M param.toNat else if kind = 2 then slK M else []
def vN (kind param : Int) (M : Mem) : Int := if kind = 3 then totA M 0 param.toNat else if kind = 4 then totA M (nC param.toNat) param.toNat else 0
/-- How Of ends. -/
def OfEnd (kind param : Int) (M : Mem) (w : World) (e : Ending) (w' : World) : Prop :=
  ∃ a cap, e = .returned (.tuple #[.agg #[.int .i64 kind, .slice a (vIt kind param M).length cap, .int .i64 (vN kind param M)], .int .i64 0]) ∧ SlAt 2 w' a cap (vIt kind param M).length (flatI (kit (vIt kind param M))) ∧ (∀ j, inB a j → w.heap.size ≤ j) ∧ Below w.heap.size w w'
theorem three_set {w : World} {b : Nat} {x y z : Value} (h : BoxAt w b [x, y, z]) : (w.cell? ⟨b, 0, none⟩ = some x ∧ w.frozen? ⟨b, 0, none⟩ = false) ∧ (w.cell? ⟨b, 1, none⟩ = some y ∧ w.frozen? ⟨b, 1, none⟩ = false) ∧ (w.cell? ⟨b, 2, none⟩ = some z ∧ w.frozen? ⟨b, 2, none⟩ = false) := ⟨h.get 0 _ rfl, h.get 1 _ rfl, h.get 2 _ rfl⟩

set_option maxRecDepth 20000 in
set_option maxHeartbeats 4000000 in
theorem of1_any (b : Nat) (p : Int) (n : Nat) (l : List Value) (w : World) (hL : legal 1 p = 0) (hC : ∀ W, Below w.heap.size w W → Calls Tryz.prog 59 #[.pointer (some ⟨b, 0, none⟩), .int .i64 p] W fun e w' => ∃ a cap, e = .returned (.slice a n cap) ∧ SlAt 2 w' a cap n l ∧ (∀ j, inB a j → W.heap.size ≤ j) ∧ Below W.heap.size W w') :
    Calls Tryz.prog 38 #[.int .i64 1, .int .i64 p, .pointer (some ⟨b, 0, none⟩)] w fun e w' => ∃ a cap, e = .returned (.tuple #[.agg #[.int .i64 1, .slice a n cap, .int .i64 0], .int .i64 0]) ∧ SlAt 2 w' a cap n l ∧ (∀ j, inB a j → w.heap.size ≤ j) ∧ Below w.heap.size w w' := by
  have hG := fun w => legal_any 1 p w
  rw [hL] at hG
  obtain ⟨b0, hb0⟩ : ∃ b0, w.heap.size = b0 := ⟨_, rfl⟩
  have HC := hidq hC
  clear hL hC
  go_enter Tryz.func38, Tryz.ntmps38
  go_wp2_with fail
  try rw [hb0]
  have h0 := BoxAt.new w [.int .i64 0, .slice none 0 0, .int .i64 0] 54
  have ha0 := (Below.refl w.heap.size w).alloc (Nat.le_refl _) (.cells #[.int .i64 0, .slice none 0 0, .int .i64 0] 54)
  rw [hb0] at h0
  refine (hG _).mono ?_
  rintro e w1 ⟨rfl, hb1⟩
  have H1 := hidq (show BoxAt w1 b0 [.int .i64 0, .slice none 0 0, .int .i64 0] ∧ Below w.heap.size w w1 from ⟨h0.below hb1, ha0.trans (hb1.mono ha0.size)⟩)
  clear h0 ha0 hb1 hG
  obtain ⟨b1, hb1⟩ : ∃ b1, w1.heap.size = b1 := ⟨_, rfl⟩
  go_wp2_with fail
  try rw [hb1]
  have hx := BoxAt.new w1 [.int .i64 1, .slice none 0 0, .int .i64 0] 54
  have hax := (Below.refl w1.heap.size w1).alloc (Nat.le_refl _) (.cells #[.int .i64 1, .slice none 0 0, .int .i64 0] 54)
  rw [hb1] at hx
  have hall2 : Below w.heap.size w (w1.alloc (.cells #[.int .i64 1, .slice none 0 0, .int .i64 0] 54)) := H1.out.2.trans (hax.mono H1.out.2.size)
  refine (HC.out _ hall2).mono ?_
  rintro e w3 ⟨a, cap, rfl, hS, hA, hb3⟩
  have hX3 := hx.below hb3
  have hR3 := (H1.out.1.below hax).below hb3
  obtain ⟨⟨x0, y0⟩, ⟨x1, y1⟩, ⟨x2, y2⟩⟩ := three_set hX3
  obtain ⟨⟨r0, z0⟩, ⟨r1, z1⟩, ⟨r2, z2⟩⟩ := three_set hR3
  have hxl := hX3.lt
  have hrl := hR3.lt
  have hne : b0 ≠ b1 := by have := H1.out.1.lt; omega
  have hne2 : b1 ≠ b0 := fun e => hne e.symm
  have HE := hidq (And.intro hall2 (And.intro hb3 (And.intro hS hA)))
  have HS := hidq (show w.heap.size ≤ b0 ∧ w.heap.size ≤ b1 ∧ (w1.alloc (.cells #[.int .i64 1, .slice none 0 0, .int .i64 0] 54)).heap.size = b1 + 1 ∧ b0 < b1 from ⟨by omega, by have := H1.out.2.size; omega, by simp [hb1], by have := H1.out.1.lt; omega⟩)
  clear hx hax hall2 hX3 hR3 hS hA hb3 HC H1
  go_wp2_with fail
  refine bodyPost_ret (v := .tuple #[.agg #[.int .i64 1, .slice a n cap, .int .i64 0], .int .i64 0]) (by simp [results, Tryz.results38, go_sem, r0, r1, r2]) rfl ?_
  obtain ⟨hall2, hb3, hS, hA⟩ := HE.out
  obtain ⟨s0, s1, s2, s3⟩ := HS.out
  have hall := hall2.trans (hb3.mono hall2.size)
  have hB1 : Below w.heap.size w (((((w3.setCell ⟨b1, 1, none⟩ (.slice a n cap)).setCell ⟨b0, 0, none⟩ (.int .i64 1)).setCell ⟨b0, 1, none⟩ (.slice a n cap)).setCell ⟨b0, 2, none⟩ (.int .i64 0))) := (((hall.setCell (p := ⟨b1, 1, none⟩) (by show w.heap.size ≤ b1; omega) _).setCell (p := ⟨b0, 0, none⟩) (by show w.heap.size ≤ b0; omega) _).setCell (p := ⟨b0, 1, none⟩) (by show w.heap.size ≤ b0; omega) _).setCell (p := ⟨b0, 2, none⟩) (by show w.heap.size ≤ b0; omega) _
  refine ⟨a, cap, rfl, ?_, fun j hj => ?_, hB1⟩
  · exact (hS).but (S := fun j => j = b0 ∨ j = b1) (((((But.refl (fun j => j = b0 ∨ j = b1) w3).set1 b1 1 (.inr rfl) (.slice a n cap)).set1 b0 0 (.inl rfl) _).set1 b0 1 (.inl rfl) _).set1 b0 2 (.inl rfl) _) (fun j hj e => by have := hA j hj; omega)
  · have := hA j hj; omega

set_option maxRecDepth 20000 in
set_option maxHeartbeats 4000000 in
theorem of2_any (b : Nat) (p : Int) (n : Nat) (l : List Value) (w : World) (hL : legal 2 p = 0) (hC : ∀ W, Below w.heap.size w W → Calls Tryz.prog 60 #[.pointer (some ⟨b, 0, none⟩)] W fun e w' => ∃ a cap, e = .returned (.slice a n cap) ∧ SlAt 2 w' a cap n l ∧ (∀ j, inB a j → W.heap.size ≤ j) ∧ Below W.heap.size W w') :
    Calls Tryz.prog 38 #[.int .i64 2, .int .i64 p, .pointer (some ⟨b, 0, none⟩)] w fun e w' => ∃ a cap, e = .returned (.tuple #[.agg #[.int .i64 2, .slice a n cap, .int .i64 0], .int .i64 0]) ∧ SlAt 2 w' a cap n l ∧ (∀ j, inB a j → w.heap.size ≤ j) ∧ Below w.heap.size w w' := by
  have hG := fun w => legal_any 2 p w
  rw [hL] at hG
  obtain ⟨b0, hb0⟩ : ∃ b0, w.heap.size = b0 := ⟨_, rfl⟩
  have HC := hidq hC
  clear hL hC
  go_enter Tryz.func38, Tryz.ntmps38
  go_wp2_with fail
  try rw [hb0]
  have h0 := BoxAt.new w [.int .i64 0, .slice none 0 0, .int .i64 0] 54
  have ha0 := (Below.refl w.heap.size w).alloc (Nat.le_refl _) (.cells #[.int .i64 0, .slice none 0 0, .int .i64 0] 54)
  rw [hb0] at h0
  refine (hG _).mono ?_
  rintro e w1 ⟨rfl, hb1⟩
  have H1 := hidq (show BoxAt w1 b0 [.int .i64 0, .slice none 0 0, .int .i64 0] ∧ Below w.heap.size w w1 from ⟨h0.below hb1, ha0.trans (hb1.mono ha0.size)⟩)
  clear h0 ha0 hb1 hG
  obtain ⟨b1, hb1⟩ : ∃ b1, w1.heap.size = b1 := ⟨_, rfl⟩
  go_wp2_with fail
  try rw [hb1]
  have hx := BoxAt.new w1 [.int .i64 2, .slice none 0 0, .int .i64 0] 54
  have hax := (Below.refl w1.heap.size w1).alloc (Nat.le_refl _) (.cells #[.int .i64 2, .slice none 0 0, .int .i64 0] 54)
  rw [hb1] at hx
  have hall2 : Below w.heap.size w (w1.alloc (.cells #[.int .i64 2, .slice none 0 0, .int .i64 0] 54)) := H1.out.2.trans (hax.mono H1.out.2.size)
  refine (HC.out _ hall2).mono ?_
  rintro e w3 ⟨a, cap, rfl, hS, hA, hb3⟩
  have hX3 := hx.below hb3
  have hR3 := (H1.out.1.below hax).below hb3
  obtain ⟨⟨x0, y0⟩, ⟨x1, y1⟩, ⟨x2, y2⟩⟩ := three_set hX3
  obtain ⟨⟨r0, z0⟩, ⟨r1, z1⟩, ⟨r2, z2⟩⟩ := three_set hR3
  have hxl := hX3.lt
  have hrl := hR3.lt
  have hne : b0 ≠ b1 := by have := H1.out.1.lt; omega
  have hne2 : b1 ≠ b0 := fun e => hne e.symm
  have HE := hidq (And.intro hall2 (And.intro hb3 (And.intro hS hA)))
  have HS := hidq (show w.heap.size ≤ b0 ∧ w.heap.size ≤ b1 ∧ (w1.alloc (.cells #[.int .i64 2, .slice none 0 0, .int .i64 0] 54)).heap.size = b1 + 1 ∧ b0 < b1 from ⟨by omega, by have := H1.out.2.size; omega, by simp [hb1], by have := H1.out.1.lt; omega⟩)
  clear hx hax hall2 hX3 hR3 hS hA hb3 HC H1
  go_wp2_with fail
  refine bodyPost_ret (v := .tuple #[.agg #[.int .i64 2, .slice a n cap, .int .i64 0], .int .i64 0]) (by simp [results, Tryz.results38, go_sem, r0, r1, r2]) rfl ?_
  obtain ⟨hall2, hb3, hS, hA⟩ := HE.out
  obtain ⟨s0, s1, s2, s3⟩ := HS.out
  have hall := hall2.trans (hb3.mono hall2.size)
  have hB1 : Below w.heap.size w (((((w3.setCell ⟨b1, 1, none⟩ (.slice a n cap)).setCell ⟨b0, 0, none⟩ (.int .i64 2)).setCell ⟨b0, 1, none⟩ (.slice a n cap)).setCell ⟨b0, 2, none⟩ (.int .i64 0))) := (((hall.setCell (p := ⟨b1, 1, none⟩) (by show w.heap.size ≤ b1; omega) _).setCell (p := ⟨b0, 0, none⟩) (by show w.heap.size ≤ b0; omega) _).setCell (p := ⟨b0, 1, none⟩) (by show w.heap.size ≤ b0; omega) _).setCell (p := ⟨b0, 2, none⟩) (by show w.heap.size ≤ b0; omega) _
  refine ⟨a, cap, rfl, ?_, fun j hj => ?_, hB1⟩
  · exact (hS).but (S := fun j => j = b0 ∨ j = b1) (((((But.refl (fun j => j = b0 ∨ j = b1) w3).set1 b1 1 (.inr rfl) (.slice a n cap)).set1 b0 0 (.inl rfl) _).set1 b0 1 (.inl rfl) _).set1 b0 2 (.inl rfl) _) (fun j hj e => by have := hA j hj; omega)
  · have := hA j hj; omega

set_option maxRecDepth 20000 in
set_option maxHeartbeats 4000000 in
theorem of3_any (b : Nat) (p : Int) (N : Int) (w : World) (hL : legal 3 p = 0) (hC : ∀ W, Below w.heap.size w W → Calls Tryz.prog 61 #[.pointer (some ⟨b, 0, none⟩), .int .i64 0, .int .i64 p] W fun e w' => e = .returned (.int .i64 N) ∧ Below W.heap.size W w') :
    Calls Tryz.prog 38 #[.int .i64 3, .int .i64 p, .pointer (some ⟨b, 0, none⟩)] w fun e w' => e = .returned (.tuple #[.agg #[.int .i64 3, .slice none 0 0, .int .i64 N], .int .i64 0]) ∧ Below w.heap.size w w' := by
  have hG := fun w => legal_any 3 p w
  rw [hL] at hG
  obtain ⟨b0, hb0⟩ : ∃ b0, w.heap.size = b0 := ⟨_, rfl⟩
  have HC := hidq hC
  clear hL hC
  go_enter Tryz.func38, Tryz.ntmps38
  go_wp2_with fail
  try rw [hb0]
  have h0 := BoxAt.new w [.int .i64 0, .slice none 0 0, .int .i64 0] 54
  have ha0 := (Below.refl w.heap.size w).alloc (Nat.le_refl _) (.cells #[.int .i64 0, .slice none 0 0, .int .i64 0] 54)
  rw [hb0] at h0
  refine (hG _).mono ?_
  rintro e w1 ⟨rfl, hb1⟩
  have H1 := hidq (show BoxAt w1 b0 [.int .i64 0, .slice none 0 0, .int .i64 0] ∧ Below w.heap.size w w1 from ⟨h0.below hb1, ha0.trans (hb1.mono ha0.size)⟩)
  clear h0 ha0 hb1 hG
  obtain ⟨b1, hb1⟩ : ∃ b1, w1.heap.size = b1 := ⟨_, rfl⟩
  go_wp2_with fail
  try rw [hb1]
  have hx := BoxAt.new w1 [.int .i64 3, .slice none 0 0, .int .i64 0] 54
  have hax := (Below.refl w1.heap.size w1).alloc (Nat.le_refl _) (.cells #[.int .i64 3, .slice none 0 0, .int .i64 0] 54)
  rw [hb1] at hx
  have hall2 : Below w.heap.size w (w1.alloc (.cells #[.int .i64 3, .slice none 0 0, .int .i64 0] 54)) := H1.out.2.trans (hax.mono H1.out.2.size)
  refine (HC.out _ hall2).mono ?_
  rintro e w3 ⟨rfl, hb3⟩
  have hX3 := hx.below hb3
  have hR3 := (H1.out.1.below hax).below hb3
  obtain ⟨⟨x0, y0⟩, ⟨x1, y1⟩, ⟨x2, y2⟩⟩ := three_set hX3
  obtain ⟨⟨r0, z0⟩, ⟨r1, z1⟩, ⟨r2, z2⟩⟩ := three_set hR3
  have hxl := hX3.lt
  have hrl := hR3.lt
  have hne : b0 ≠ b1 := by have := H1.out.1.lt; omega
  have hne2 : b1 ≠ b0 := fun e => hne e.symm
  have HE := hidq (And.intro hall2 (And.intro hb3 trivial))
  have HS := hidq (show w.heap.size ≤ b0 ∧ w.heap.size ≤ b1 ∧ (w1.alloc (.cells #[.int .i64 3, .slice none 0 0, .int .i64 0] 54)).heap.size = b1 + 1 ∧ b0 < b1 from ⟨by omega, by have := H1.out.2.size; omega, by simp [hb1], by have := H1.out.1.lt; omega⟩)
  clear hx hax hall2 hX3 hR3 hb3 HC H1
  go_wp2_with fail
  refine bodyPost_ret (v := .tuple #[.agg #[.int .i64 3, .slice none 0 0, .int .i64 N], .int .i64 0]) (by simp [results, Tryz.results38, go_sem, r0, r1, r2]) rfl ?_
  obtain ⟨hall2, hb3, _⟩ := HE.out
  obtain ⟨s0, s1, s2, s3⟩ := HS.out
  have hall := hall2.trans (hb3.mono hall2.size)
  have hB1 : Below w.heap.size w (((((w3.setCell ⟨b1, 2, none⟩ (.int .i64 N)).setCell ⟨b0, 0, none⟩ (.int .i64 3)).setCell ⟨b0, 1, none⟩ (.slice none 0 0)).setCell ⟨b0, 2, none⟩ (.int .i64 N))) := (((hall.setCell (p := ⟨b1, 2, none⟩) (by show w.heap.size ≤ b1; omega) _).setCell (p := ⟨b0, 0, none⟩) (by show w.heap.size ≤ b0; omega) _).setCell (p := ⟨b0, 1, none⟩) (by show w.heap.size ≤ b0; omega) _).setCell (p := ⟨b0, 2, none⟩) (by show w.heap.size ≤ b0; omega) _
  exact ⟨rfl, hB1⟩

set_option maxRecDepth 20000 in
set_option maxHeartbeats 4000000 in
theorem of4_any (b : Nat) (p : Int) (N : Int) (w : World) (hL : legal 4 p = 0) (hC : ∀ W, Below w.heap.size w W → Calls Tryz.prog 62 #[.pointer (some ⟨b, 0, none⟩), .int .i64 p] W fun e w' => e = .returned (.int .i64 N) ∧ Below W.heap.size W w') :
    Calls Tryz.prog 38 #[.int .i64 4, .int .i64 p, .pointer (some ⟨b, 0, none⟩)] w fun e w' => e = .returned (.tuple #[.agg #[.int .i64 4, .slice none 0 0, .int .i64 N], .int .i64 0]) ∧ Below w.heap.size w w' := by
  have hG := fun w => legal_any 4 p w
  rw [hL] at hG
  obtain ⟨b0, hb0⟩ : ∃ b0, w.heap.size = b0 := ⟨_, rfl⟩
  have HC := hidq hC
  clear hL hC
  go_enter Tryz.func38, Tryz.ntmps38
  go_wp2_with fail
  try rw [hb0]
  have h0 := BoxAt.new w [.int .i64 0, .slice none 0 0, .int .i64 0] 54
  have ha0 := (Below.refl w.heap.size w).alloc (Nat.le_refl _) (.cells #[.int .i64 0, .slice none 0 0, .int .i64 0] 54)
  rw [hb0] at h0
  refine (hG _).mono ?_
  rintro e w1 ⟨rfl, hb1⟩
  have H1 := hidq (show BoxAt w1 b0 [.int .i64 0, .slice none 0 0, .int .i64 0] ∧ Below w.heap.size w w1 from ⟨h0.below hb1, ha0.trans (hb1.mono ha0.size)⟩)
  clear h0 ha0 hb1 hG
  obtain ⟨b1, hb1⟩ : ∃ b1, w1.heap.size = b1 := ⟨_, rfl⟩
  go_wp2_with fail
  try rw [hb1]
  have hx := BoxAt.new w1 [.int .i64 4, .slice none 0 0, .int .i64 0] 54
  have hax := (Below.refl w1.heap.size w1).alloc (Nat.le_refl _) (.cells #[.int .i64 4, .slice none 0 0, .int .i64 0] 54)
  rw [hb1] at hx
  have hall2 : Below w.heap.size w (w1.alloc (.cells #[.int .i64 4, .slice none 0 0, .int .i64 0] 54)) := H1.out.2.trans (hax.mono H1.out.2.size)
  refine (HC.out _ hall2).mono ?_
  rintro e w3 ⟨rfl, hb3⟩
  have hX3 := hx.below hb3
  have hR3 := (H1.out.1.below hax).below hb3
  obtain ⟨⟨x0, y0⟩, ⟨x1, y1⟩, ⟨x2, y2⟩⟩ := three_set hX3
  obtain ⟨⟨r0, z0⟩, ⟨r1, z1⟩, ⟨r2, z2⟩⟩ := three_set hR3
  have hxl := hX3.lt
  have hrl := hR3.lt
  have hne : b0 ≠ b1 := by have := H1.out.1.lt; omega
  have hne2 : b1 ≠ b0 := fun e => hne e.symm
  have HE := hidq (And.intro hall2 (And.intro hb3 trivial))
  have HS := hidq (show w.heap.size ≤ b0 ∧ w.heap.size ≤ b1 ∧ (w1.alloc (.cells #[.int .i64 4, .slice none 0 0, .int .i64 0] 54)).heap.size = b1 + 1 ∧ b0 < b1 from ⟨by omega, by have := H1.out.2.size; omega, by simp [hb1], by have := H1.out.1.lt; omega⟩)
  clear hx hax hall2 hX3 hR3 hb3 HC H1
  go_wp2_with fail
  refine bodyPost_ret (v := .tuple #[.agg #[.int .i64 4, .slice none 0 0, .int .i64 N], .int .i64 0]) (by simp [results, Tryz.results38, go_sem, r0, r1, r2]) rfl ?_
  obtain ⟨hall2, hb3, _⟩ := HE.out
  obtain ⟨s0, s1, s2, s3⟩ := HS.out
  have hall := hall2.trans (hb3.mono hall2.size)
  have hB1 : Below w.heap.size w (((((w3.setCell ⟨b1, 2, none⟩ (.int .i64 N)).setCell ⟨b0, 0, none⟩ (.int .i64 4)).setCell ⟨b0, 1, none⟩ (.slice none 0 0)).setCell ⟨b0, 2, none⟩ (.int .i64 N))) := (((hall.setCell (p := ⟨b1, 2, none⟩) (by show w.heap.size ≤ b1; omega) _).setCell (p := ⟨b0, 0, none⟩) (by show w.heap.size ≤ b0; omega) _).setCell (p := ⟨b0, 1, none⟩) (by show w.heap.size ≤ b0; omega) _).setCell (p := ⟨b0, 2, none⟩) (by show w.heap.size ≤ b0; omega) _
  exact ⟨rfl, hB1⟩

theorem of12_any (kind param : Int) (b : Nat) (O : Nat → Prop) (M : Mem) (w : World) (hL : legal kind param = 0) (h : MemAt w b O M) (hI : iK kind M) :
    Calls Tryz.prog 38 #[.int .i64 kind, .int .i64 param, .pointer (some ⟨b, 0, none⟩)] w (OfEnd kind param M w) := by
  have hp := par_rng hL
  have hk : 1 ≤ kind ∧ kind ≤ 4 := by
    rcases Classical.em (1 ≤ kind ∧ kind ≤ 4) with h | h
    · exact h
    · rw [legal_kind h] at hL; cases hL
  obtain ⟨n, hn⟩ : ∃ n : Nat, param = (n : Int) := ⟨param.toNat, by omega⟩
  have hnn : param.toNat = n := by omega
  rcases (show kind = 1 ∨ kind = 2 ∨ kind = 3 ∨ kind = 4 by omega) with rfl | rfl | rfl | rfl
  · have e1 : vIt 1 param M = shK M n := by rw [← hnn]; rfl
    have e2 : vN 1 param M = 0 := rfl
    unfold OfEnd
    rw [e1, e2]
    refine of1_any b param _ _ w hL (fun W hW => ?_)
    rw [hn]
    exact inShards_any b O M n (by omega) W (h.below hW) hI
  · have e1 : vIt 2 param M = slK M := rfl
    have e2 : vN 2 param M = 0 := rfl
    unfold OfEnd
    rw [e1, e2]
    exact of2_any b param _ _ w hL (fun W hW => inSlots_any b O M W (h.below hW) ⟨hI.1, fullK_nodup hI.2.2.1 hI.2.2.2 _⟩)
  · have e2 : vN 3 param M = totA M 0 n := by rw [← hnn]; rfl
    unfold OfEnd
    rw [e2]
    refine (of3_any b param (totA M 0 n) w hL (fun W hW => ?_)).mono ?_
    · rw [hn]
      exact together_any b O M 0 n (by omega) (by omega) W (h.below hW)
    · rintro e w' ⟨rfl, hb⟩
      exact ⟨none, 0, rfl, SlAt.nil _ _, fun j hj => (by obtain ⟨x, hx, _⟩ := hj; cases hx), hb⟩
  · have e2 : vN 4 param M = totA M (nC param.toNat) param.toNat := rfl
    unfold OfEnd
    rw [e2]
    refine (of4_any b param (totA M (nC param.toNat) param.toNat) w hL (fun W hW => wentOut_any b O M param hL W (h.below hW))).mono ?_
    rintro e w' ⟨rfl, hb⟩
    exact ⟨none, 0, rfl, SlAt.nil _ _, fun j hj => (by obtain ⟨x, hx, _⟩ := hj; cases hx), hb⟩
end Go.Proofs.YtbcmilfajeanbaaGreat

namespace Go.Proofs.YtbcmilfajeanbaaGreat
open Go.RowKit Go.Sort
namespace Gb

/-- What each step leaves: the box, all but the box. -/
def Pres (x : Option Nat) (w : World) (x' : Option Nat) (w' : World) : Prop := (∀ b, x = some b → x' = some b) ∧ But (fun j => x = some j) w w' ∧ ∀ b, x' = some b → x = some b ∨ w.heap.size ≤ b
theorem Pres.refl (x : Option Nat) (w : World) : Pres x w x w := ⟨fun _ h => h, But.refl _ _, fun _ h => .inl h⟩
theorem Pres.below {x : Option Nat} {w w' : World} (h : Below w.heap.size w w') : Pres x w x w' := ⟨fun _ h => h, But.of_below h, fun _ h => .inl h⟩
/-- What lies in no box that is stored into. -/
def Apart (x : Option Nat) (g : Nat) : Prop := ∀ b, x = some b → b ≠ g
theorem Apart.kept {x x' : Option Nat} {w w' : World} {g : Nat} (h : Apart x g) (hp : Pres x w x' w') (hg : g < w.heap.size) : Apart x' g := fun b hb => by
  rcases hp.2.2 b hb with e | e
  · exact h b e
  · omega
structure GI (W1 : World) (Z : List Value) (V : World → Nat → Prop) (iL iS : Nat) (x : Option Nat) (L : Array Bool) (w : World) : Prop where
  bel : Below W1.heap.size W1 w
  no : L.getD iL false = false → x = none
  box : ∀ b, x = some b → W1.heap.size ≤ b ∧ b < w.heap.size ∧ (L.getD iS false = false → BoxAt w b Z) ∧ (L.getD iS false = true → V w b)
section
variable {W1 : World} {Z : List Value} {V : World → Nat → Prop} {iL iS : Nat} {x : Option Nat} {L : Array Bool} {w w' : World}
theorem getD_none (n i : Nat) : (Array.replicate n false).getD i false = false := by
  rw [Array.getD_eq_getD_getElem?, Array.getElem?_replicate]
  split <;> rfl
theorem GI.start (w : World) (Z : List Value) (V : World → Nat → Prop) (iL iS n : Nat) : GI w Z V iL iS none (Array.replicate n false) w.drew :=
  ⟨(Below.refl _ _).drew, fun _ => rfl, fun b hb => by cases hb⟩
theorem GI.quiet (h : GI W1 Z V iL iS x L w) (i : Nat) (h1 : i ≠ iL) (h2 : i ≠ iS) : GI W1 Z V iL iS x (L.setIfInBounds i true) w :=
  ⟨h.bel, by rw [Reg.getD_setb h1]; exact h.no, by rw [Reg.getD_setb h2]; exact h.box⟩
theorem GI.below (hV : ∀ w w' b, Below w.heap.size w w' → b < w.heap.size → V w b → V w' b) (h : GI W1 Z V iL iS x L w) (hb : Below w.heap.size w w') : GI W1 Z V iL iS x L w' :=
  ⟨h.bel.trans (hb.mono h.bel.size), h.no, fun b e => by
    obtain ⟨q1, q2, q3, q4⟩ := h.box b e
    exact ⟨q1, Nat.lt_of_lt_of_le q2 hb.size, fun e => (q3 e).below hb, fun e => hV _ _ _ hb q2 (q4 e)⟩⟩
theorem GI.alloc (h : GI W1 Z V iL iS x L w) (hk : L.getD iL true = false) (hS : L.getD iS false = false) (h1 : iL ≠ iS) (t : TypeId) : Pres x w (some w.heap.size) (w.alloc (.cells Z.toArray t)) ∧ GI W1 Z V iL iS (some w.heap.size) (L.setIfInBounds iL true) (w.alloc (.cells Z.toArray t)) := by
  have hx := h.no (Reg.getD_true hk)
  refine ⟨⟨fun b e => (by rw [hx] at e; cases e), (But.refl _ _).alloc _, fun b e => (by injection e with e; exact .inr (by omega))⟩, h.bel.trans (((Below.refl _ _).alloc (Nat.le_refl _) _).mono h.bel.size), fun e => ?_, fun b e => ?_⟩
  · rw [Reg.getD_sets hk] at e; cases e
  · injection e with e
    subst e
    refine ⟨h.bel.size, by rw [World.size_alloc]; omega, fun _ => BoxAt.new w Z t, fun e => ?_⟩
    rw [Reg.getD_setb h1, hS] at e
    cases e
theorem GI.store (h : GI W1 Z V iL iS x L w) (hk : L.getD iS true = false) (h1 : iS ≠ iL) {b : Nat} (hx : x = some b) (hb : But (fun j => j = b) w w') (hv : V w' b) : Pres x w x w' ∧ GI W1 Z V iL iS x (L.setIfInBounds iS true) w' := by
  obtain ⟨q1, q2, _, _⟩ := h.box b hx
  refine ⟨⟨fun _ e => e, hb.mono (fun j _ e => by rw [hx, e]), fun _ e => .inl e⟩, h.bel.trans (hb.below h.bel.size (fun k e => by omega)), by rw [Reg.getD_setb h1]; exact h.no, fun b' e => ?_⟩
  rw [hx] at e
  injection e with e
  subst e
  refine ⟨q1, Nat.lt_of_lt_of_le q2 hb.size, fun e => ?_, fun _ => hv⟩
  rw [Reg.getD_sets hk] at e
  cases e
end
end Gb
end Go.Proofs.YtbcmilfajeanbaaGreat

namespace Go.Proofs.YtbcmilfajeanbaaGreat
open Go.RowKit Go.Sort

theorem box_set3 {w : World} {b : Nat} {x y z : Value} (h : BoxAt w b [x, y, z]) (u0 u1 u2 : Value) : BoxAt (((w.setCell ⟨b, 0, none⟩ u0).setCell ⟨b, 1, none⟩ u1).setCell ⟨b, 2, none⟩ u2) b [u0, u1, u2] ∧ But (fun j => j = b) w (((w.setCell ⟨b, 0, none⟩ u0).setCell ⟨b, 1, none⟩ u1).setCell ⟨b, 2, none⟩ u2) :=
  ⟨((h.set 0 u0).set 1 u1).set 2 u2, (((But.refl (fun j => j = b) _).set1 b 0 rfl u0).set1 b 1 rfl u1).set1 b 2 rfl u2⟩

def enVal (n : Nat) (l : List Value) (lo : Nat) (eb : Nat) (mb : Nat) (kind : Int) (param : Int) (N : Int) : List (Value → Option Nat → World → Prop) :=
  [fun v _ _ => v = .pointer (some ⟨eb, 0, none⟩),
   fun v _ _ => v = .pointer (some ⟨eb, 0, none⟩),
   fun v _ _ => v = .pointer (some ⟨eb, 0, none⟩),
   fun v _ _ => v = .int .i64 kind,
   fun v _ _ => v = .pointer (some ⟨eb, 0, none⟩),
   fun v _ _ => v = .pointer (some ⟨eb, 0, none⟩),
   fun v _ _ => v = .pointer (some ⟨eb, 1, none⟩),
   fun v _ _ => v = .int .i64 param,
   fun v _ _ => v = .pointer (some ⟨eb, 0, none⟩),
   fun v _ _ => v = .pointer (some ⟨eb, 0, none⟩),
   fun v _ _ => v = .pointer (some ⟨eb, 3, none⟩),
   fun v _ _ => v = .pointer (some ⟨mb, 0, none⟩),
   fun v x w => ∃ a cap, v = .tuple #[.agg #[.int .i64 kind, .slice a n cap, .int .i64 N], .int .i64 0] ∧ SlAt 2 w a cap n l ∧ (∀ j, inB a j → lo ≤ j) ∧ ∀ j, inB a j → Gb.Apart x j,
   fun v x w => ∃ a cap, v = .tuple #[.agg #[.int .i64 kind, .slice a n cap, .int .i64 N], .int .i64 0] ∧ SlAt 2 w a cap n l ∧ (∀ j, inB a j → lo ≤ j) ∧ ∀ j, inB a j → Gb.Apart x j,
   fun v x w => ∃ a cap, v = .agg #[.int .i64 kind, .slice a n cap, .int .i64 N] ∧ SlAt 2 w a cap n l ∧ (∀ j, inB a j → lo ≤ j) ∧ ∀ j, inB a j → Gb.Apart x j,
   fun v _ _ => v = .int .i64 0,
   fun v x _ => ∃ b, x = some b ∧ v = .pointer (some ⟨b, 0, none⟩),
   fun _ _ _ => True,
   fun v _ _ => v = .int .i64 0]
theorem enVal_kept (n : Nat) (l : List Value) (lo : Nat) (eb : Nat) (mb : Nat) (kind : Int) (param : Int) (N : Int) : Reg.GAllKept Gb.Pres (enVal n l lo eb mb kind param N) :=
  ⟨(fun _ _ _ _ _ _ h => h), (fun _ _ _ _ _ _ h => h), (fun _ _ _ _ _ _ h => h), (fun _ _ _ _ _ _ h => h), (fun _ _ _ _ _ _ h => h), (fun _ _ _ _ _ _ h => h), (fun _ _ _ _ _ _ h => h), (fun _ _ _ _ _ _ h => h), (fun _ _ _ _ _ _ h => h), (fun _ _ _ _ _ _ h => h), (fun _ _ _ _ _ _ h => h), (fun _ _ _ _ _ _ h => h), (fun v x w x' w' hp h => by obtain ⟨a, cap, h1, h2, h3, h4⟩ := h; exact ⟨a, cap, h1, h2.but hp.2.1 (fun j hj e => h4 j hj j e rfl), h3, fun j hj => (h4 j hj).kept hp (h2.lt j hj)⟩), (fun v x w x' w' hp h => by obtain ⟨a, cap, h1, h2, h3, h4⟩ := h; exact ⟨a, cap, h1, h2.but hp.2.1 (fun j hj e => h4 j hj j e rfl), h3, fun j hj => (h4 j hj).kept hp (h2.lt j hj)⟩), (fun v x w x' w' hp h => by obtain ⟨a, cap, h1, h2, h3, h4⟩ := h; exact ⟨a, cap, h1, h2.but hp.2.1 (fun j hj e => h4 j hj j e rfl), h3, fun j hj => (h4 j hj).kept hp (h2.lt j hj)⟩), (fun _ _ _ _ _ _ h => h), (fun v x w x' w' hp h => by obtain ⟨b, h1, h2⟩ := h; exact ⟨b, hp.1 b h1, h2⟩), (fun _ _ _ _ _ _ _ => trivial), (fun _ _ _ _ _ _ h => h), trivial⟩

/-- How Value ends. -/
def ValEnd (kind param : Int) (M : Mem) (w : World) (e : Ending) (w' : World) : Prop :=
  ∃ a cap, e = .returned (.agg #[.int .i64 kind, .slice a (vIt kind param M).length cap, .int .i64 (vN kind param M)]) ∧ SlAt 2 w' a cap (vIt kind param M).length (flatI (kit (vIt kind param M))) ∧ (∀ j, inB a j → w.heap.size ≤ j) ∧ Below w.heap.size w w'

set_option maxRecDepth 20000 in
set_option maxHeartbeats 8000000 in
theorem envalue_any (eb : Nat) (kind param : Int) (T : TypeId) (mv : Value) (mb : Nat) (Q : Nat → Option Nat) (closed : Bool) (steps : Int) (O : Nat → Prop) (M : Mem) (w : World) (hE : BoxAt w eb (ecells kind param T mv mb Q closed steps)) (hL : legal kind param = 0) (h : MemAt w mb O M) (hI : iK kind M) :
    Calls Tryz.prog 12 #[.pointer (some ⟨eb, 0, none⟩)] w (ValEnd kind param M w) := by
  obtain ⟨l, hl⟩ : ∃ l, flatI (kit (vIt kind param M)) = l := ⟨_, rfl⟩
  obtain ⟨n, hn⟩ : ∃ n, (vIt kind param M).length = n := ⟨_, rfl⟩
  obtain ⟨N, hN⟩ : ∃ N, vN kind param M = N := ⟨_, rfl⟩
  obtain ⟨b1, hb1⟩ : ∃ b1, w.heap.size = b1 := ⟨_, rfl⟩
  have FM0 := fun W (hW : Below w.heap.size w W) => of12_any kind param mb O M W hL (h.below hW) hI
  unfold OfEnd at FM0
  unfold ValEnd
  rw [hl, hn, hN] at FM0 ⊢
  have HW := hidq (And.intro hE FM0)
  clear hE FM0 hL h hI hl hn hN
  go_enter Tryz.func12, Tryz.ntmps12
  go_upto_region 1 with fail
  try rw [hb1]
  obtain ⟨W1, hW1⟩ : ∃ W1, w.alloc (.cells #[.int .i64 0, .slice none 0 0, .int .i64 0] 54) = W1 := ⟨_, rfl⟩
  obtain ⟨lo, hlo⟩ : ∃ lo, W1.heap.size = lo := ⟨_, rfl⟩
  have H1 := hidq (show Below w.heap.size w W1 ∧ BoxAt W1 b1 [.int .i64 0, .slice none 0 0, .int .i64 0] ∧ lo = b1 + 1 from by
    rw [← hlo, ← hW1, ← hb1]
    exact ⟨(Below.refl _ _).alloc (Nat.le_refl _) _, BoxAt.new w _ _, by simp⟩)
  rw [hW1]
  clear hW1
  have HV : ∀ (w w' : World) (b : Nat), Below w.heap.size w w' → b < w.heap.size → (∃ a cap, BoxAt w b [.int .i64 kind, .slice a n cap, .int .i64 N] ∧ SlAt 2 w a cap n l ∧ (∀ j, inB a j → lo ≤ j) ∧ ∀ j, inB a j → j ≠ b) → ∃ a cap, BoxAt w' b [.int .i64 kind, .slice a n cap, .int .i64 N] ∧ SlAt 2 w' a cap n l ∧ (∀ j, inB a j → lo ≤ j) ∧ ∀ j, inB a j → j ≠ b :=
    fun _ _ _ hb _ h => by obtain ⟨a, cap, h1, h2, h3⟩ := h; exact ⟨a, cap, h1.below hb, h2.below hb, h3⟩
  have FM := hidq (fun W (hW : Below W1.heap.size W1 W) => HW.out.2 W (H1.out.1.trans (hW.mono H1.out.1.size)))
  have FC := hidq (fun W (hW : Below W1.heap.size W1 W) => (show W.cell? ⟨eb, 0, none⟩ = some (.int .i64 kind) ∧ W.cell? ⟨eb, 1, none⟩ = some (.int .i64 param) ∧ W.cell? ⟨eb, 3, none⟩ = some (.pointer (some ⟨mb, 0, none⟩)) from by
    have q := HW.out.1.below (H1.out.1.trans (hW.mono H1.out.1.size))
    exact ⟨(q.get 0 _ rfl).1, (q.get 1 _ rfl).1, (q.get 3 _ rfl).1⟩))
  refine Reg.wp_region_ghost (Reg.gofList (enVal n l lo eb mb kind param N)) Gb.Pres (Gb.GI W1 [.int .i64 0, .slice none 0 0, .int .i64 0] (fun w b => ∃ a cap, BoxAt w b [.int .i64 kind, .slice a n cap, .int .i64 N] ∧ SlAt 2 w a cap n l ∧ (∀ j, inB a j → lo ≤ j) ∧ ∀ j, inB a j → j ≠ b) 16 17) none (by kernel_rfl) (by kernel_rfl) (Reg.GAllKept.at _ (enVal_kept n l lo eb mb kind param N)) (Gb.GI.start _ _ _ _ _ _) ⟨?_, ?_, ?_, ?_, ?_, ?_, ?_, ?_, ?_, ?_, ?_, ?_, ?_, ?_, ?_, ?_, ?_, ?_, ?_, trivial⟩ ?_
  · refine Reg.GStepAt.plain (i := 0) rfl ?_
    intro x L ev w hI hk hp hA
    have e0 : ev (.tmp 0) = .pointer (some ⟨eb, 0, none⟩) := hA.oldNone 0 (by kernel_rfl)
    have hcc := hA.const
    clear hA hp
    refine Reg.out_value (v := .pointer (some ⟨eb, 0, none⟩)) ?_ ⟨x, rfl, Gb.Pres.refl _ _, hI.quiet 0 (by decide) (by decide)⟩
    go_simp
  · refine Reg.GStepAt.plain (i := 1) rfl ?_
    intro x L ev w hI hk hp hA
    have e6 : ev (.tmp 6) = .pointer (some ⟨eb, 0, none⟩) := hA.val 0 _ 6 rfl (hp ⟨0, .data⟩ (by simp) rfl) rfl
    have hcc := hA.const
    clear hA hp
    refine Reg.out_value (v := .pointer (some ⟨eb, 0, none⟩)) ?_ ⟨x, rfl, Gb.Pres.refl _ _, hI.quiet 1 (by decide) (by decide)⟩
    go_simp
  · refine Reg.GStepAt.plain (i := 2) rfl ?_
    intro x L ev w hI hk hp hA
    have e7 : ev (.tmp 7) = .pointer (some ⟨eb, 0, none⟩) := hA.val 1 _ 7 rfl (hp ⟨1, .data⟩ (by simp) rfl) rfl
    have hcc := hA.const
    clear hA hp
    refine Reg.out_value (v := .pointer (some ⟨eb, 0, none⟩)) ?_ ⟨x, rfl, Gb.Pres.refl _ _, hI.quiet 2 (by decide) (by decide)⟩
    go_simp
  · refine Reg.GStepAt.plain (i := 3) rfl ?_
    intro x L ev w hI hk hp hA
    have e8 : ev (.tmp 8) = .pointer (some ⟨eb, 0, none⟩) := hA.val 2 _ 8 rfl (hp ⟨2, .data⟩ (by simp) rfl) rfl
    have hcc := hA.const
    clear hA hp
    obtain ⟨f0, f1, f3⟩ := FC.out w hI.bel
    refine Reg.out_value (v := .int .i64 kind) ?_ ⟨x, rfl, Gb.Pres.refl _ _, hI.quiet 3 (by decide) (by decide)⟩
    go_simp
  · refine Reg.GStepAt.plain (i := 4) rfl ?_
    intro x L ev w hI hk hp hA
    have e0 : ev (.tmp 0) = .pointer (some ⟨eb, 0, none⟩) := hA.oldNone 0 (by kernel_rfl)
    have hcc := hA.const
    clear hA hp
    refine Reg.out_value (v := .pointer (some ⟨eb, 0, none⟩)) ?_ ⟨x, rfl, Gb.Pres.refl _ _, hI.quiet 4 (by decide) (by decide)⟩
    go_simp
  · refine Reg.GStepAt.plain (i := 5) rfl ?_
    intro x L ev w hI hk hp hA
    have e10 : ev (.tmp 10) = .pointer (some ⟨eb, 0, none⟩) := hA.val 4 _ 10 rfl (hp ⟨4, .data⟩ (by simp) rfl) rfl
    have hcc := hA.const
    clear hA hp
    refine Reg.out_value (v := .pointer (some ⟨eb, 0, none⟩)) ?_ ⟨x, rfl, Gb.Pres.refl _ _, hI.quiet 5 (by decide) (by decide)⟩
    go_simp
  · refine Reg.GStepAt.plain (i := 6) rfl ?_
    intro x L ev w hI hk hp hA
    have e11 : ev (.tmp 11) = .pointer (some ⟨eb, 0, none⟩) := hA.val 5 _ 11 rfl (hp ⟨5, .data⟩ (by simp) rfl) rfl
    have hcc := hA.const
    clear hA hp
    refine Reg.out_value (v := .pointer (some ⟨eb, 1, none⟩)) ?_ ⟨x, rfl, Gb.Pres.refl _ _, hI.quiet 6 (by decide) (by decide)⟩
    go_simp
  · refine Reg.GStepAt.plain (i := 7) rfl ?_
    intro x L ev w hI hk hp hA
    have e12 : ev (.tmp 12) = .pointer (some ⟨eb, 1, none⟩) := hA.val 6 _ 12 rfl (hp ⟨6, .data⟩ (by simp) rfl) rfl
    have hcc := hA.const
    clear hA hp
    obtain ⟨f0, f1, f3⟩ := FC.out w hI.bel
    refine Reg.out_value (v := .int .i64 param) ?_ ⟨x, rfl, Gb.Pres.refl _ _, hI.quiet 7 (by decide) (by decide)⟩
    go_simp
  · refine Reg.GStepAt.plain (i := 8) rfl ?_
    intro x L ev w hI hk hp hA
    have e0 : ev (.tmp 0) = .pointer (some ⟨eb, 0, none⟩) := hA.oldNone 0 (by kernel_rfl)
    have hcc := hA.const
    clear hA hp
    refine Reg.out_value (v := .pointer (some ⟨eb, 0, none⟩)) ?_ ⟨x, rfl, Gb.Pres.refl _ _, hI.quiet 8 (by decide) (by decide)⟩
    go_simp
  · refine Reg.GStepAt.plain (i := 9) rfl ?_
    intro x L ev w hI hk hp hA
    have e14 : ev (.tmp 14) = .pointer (some ⟨eb, 0, none⟩) := hA.val 8 _ 14 rfl (hp ⟨8, .data⟩ (by simp) rfl) rfl
    have hcc := hA.const
    clear hA hp
    refine Reg.out_value (v := .pointer (some ⟨eb, 0, none⟩)) ?_ ⟨x, rfl, Gb.Pres.refl _ _, hI.quiet 9 (by decide) (by decide)⟩
    go_simp
  · refine Reg.GStepAt.plain (i := 10) rfl ?_
    intro x L ev w hI hk hp hA
    have e15 : ev (.tmp 15) = .pointer (some ⟨eb, 0, none⟩) := hA.val 9 _ 15 rfl (hp ⟨9, .data⟩ (by simp) rfl) rfl
    have hcc := hA.const
    clear hA hp
    refine Reg.out_value (v := .pointer (some ⟨eb, 3, none⟩)) ?_ ⟨x, rfl, Gb.Pres.refl _ _, hI.quiet 10 (by decide) (by decide)⟩
    go_simp
  · refine Reg.GStepAt.plain (i := 11) rfl ?_
    intro x L ev w hI hk hp hA
    have e16 : ev (.tmp 16) = .pointer (some ⟨eb, 3, none⟩) := hA.val 10 _ 16 rfl (hp ⟨10, .data⟩ (by simp) rfl) rfl
    have hcc := hA.const
    clear hA hp
    obtain ⟨f0, f1, f3⟩ := FC.out w hI.bel
    refine Reg.out_value (v := .pointer (some ⟨mb, 0, none⟩)) ?_ ⟨x, rfl, Gb.Pres.refl _ _, hI.quiet 11 (by decide) (by decide)⟩
    go_simp
  · refine Reg.GStepAt.plain (i := 12) rfl ?_
    intro x L ev w hI hk hp hA
    have e9 : ev (.tmp 9) = .int .i64 kind := hA.val 3 _ 9 rfl (hp ⟨3, .data⟩ (by simp) rfl) rfl
    have e13 : ev (.tmp 13) = .int .i64 param := hA.val 7 _ 13 rfl (hp ⟨7, .data⟩ (by simp) rfl) rfl
    have e17 : ev (.tmp 17) = .pointer (some ⟨mb, 0, none⟩) := hA.val 11 _ 17 rfl (hp ⟨11, .data⟩ (by simp) rfl) rfl
    have hcc := hA.const
    have hcf := hA.func
    clear hA hp
    have hM := FM.out w hI.bel
    refine Reg.out_call (f := 38) (args := #[.int .i64 kind, .int .i64 param, .pointer (some ⟨mb, 0, none⟩)]) (w0 := w) ?_ ?_
    · go_simp
    refine (hM).mono ?_
    rintro e w' ⟨a, cap, rfl, hS', hA', hb'⟩
    exact ⟨_, rfl, x, ⟨a, cap, rfl, hS', fun j hj => by have := hI.bel.size; have := hA' j hj; omega, fun j hj b e => by have := (hI.box b e).2.1; have := hA' j hj; omega⟩, Gb.Pres.below hb', (hI.below HV hb').quiet 12 (by decide) (by decide)⟩
  · refine Reg.GStepAt.plain (i := 13) rfl ?_
    intro x L ev w hI hk hp hA
    have e18 : (fun v x w => ∃ a cap, v = .tuple #[.agg #[.int .i64 kind, .slice a n cap, .int .i64 N], .int .i64 0] ∧ SlAt 2 w a cap n l ∧ (∀ j, inB a j → lo ≤ j) ∧ ∀ j, inB a j → Gb.Apart x j) (ev (.tmp 18)) x w := hA.val 12 _ 18 rfl (hp ⟨12, .data⟩ (by simp) rfl) rfl
    have hcc := hA.const
    clear hA hp
    exact Reg.out_value rfl ⟨x, e18, Gb.Pres.refl _ _, hI.quiet 13 (by decide) (by decide)⟩
  · refine Reg.GStepAt.plain (i := 14) rfl ?_
    intro x L ev w hI hk hp hA
    have e5 : (fun v x w => ∃ a cap, v = .tuple #[.agg #[.int .i64 kind, .slice a n cap, .int .i64 N], .int .i64 0] ∧ SlAt 2 w a cap n l ∧ (∀ j, inB a j → lo ≤ j) ∧ ∀ j, inB a j → Gb.Apart x j) (ev (.tmp 5)) x w := hA.val 13 _ 5 rfl (hp ⟨13, .data⟩ (by simp) rfl) rfl
    have hcc := hA.const
    clear hA hp
    obtain ⟨a, cap, e5, q2, q3, q4⟩ := e5
    refine Reg.out_value (v := .agg #[.int .i64 kind, .slice a n cap, .int .i64 N]) ?_ ⟨x, ⟨a, cap, rfl, q2, q3, q4⟩, Gb.Pres.refl _ _, hI.quiet 14 (by decide) (by decide)⟩
    clear hI hk
    go_simp
  · refine Reg.GStepAt.plain (i := 15) rfl ?_
    intro x L ev w hI hk hp hA
    have e5 : (fun v x w => ∃ a cap, v = .tuple #[.agg #[.int .i64 kind, .slice a n cap, .int .i64 N], .int .i64 0] ∧ SlAt 2 w a cap n l ∧ (∀ j, inB a j → lo ≤ j) ∧ ∀ j, inB a j → Gb.Apart x j) (ev (.tmp 5)) x w := hA.val 13 _ 5 rfl (hp ⟨13, .data⟩ (by simp) rfl) rfl
    have hcc := hA.const
    clear hA hp
    obtain ⟨a, cap, e5, q2, q3, q4⟩ := e5
    refine Reg.out_value (v := .int .i64 0) ?_ ⟨x, rfl, Gb.Pres.refl _ _, hI.quiet 15 (by decide) (by decide)⟩
    clear hI hk
    go_simp
  · refine Reg.GStepAt.plain (i := 16) rfl ?_
    intro x L ev w hI hk hp hA
    have hcc := hA.const
    have NL := Reg.not_listed hA 16 17 _ rfl ⟨16, .data⟩ (by simp) rfl hk
    clear hA hp
    obtain ⟨hP, hG⟩ := hI.alloc hk NL (by decide) 54
    refine Reg.out_new (v := .pointer (some ⟨w.heap.size, 0, none⟩)) (w' := w.alloc (.cells #[.int .i64 0, .slice none 0 0, .int .i64 0] 54)) ?_ ⟨_, ⟨_, rfl, rfl⟩, hP, hG⟩
    clear hI hk hP hG NL
    go_simp
  · refine Reg.GStepAt.plain (i := 17) rfl ?_
    intro x L ev w hI hk hp hA
    have e3 : (fun v x _ => ∃ b, x = some b ∧ v = .pointer (some ⟨b, 0, none⟩)) (ev (.tmp 3)) x w := hA.val 16 _ 3 rfl (hp ⟨16, .data⟩ (by simp) rfl) rfl
    have e19 : (fun v x w => ∃ a cap, v = .agg #[.int .i64 kind, .slice a n cap, .int .i64 N] ∧ SlAt 2 w a cap n l ∧ (∀ j, inB a j → lo ≤ j) ∧ ∀ j, inB a j → Gb.Apart x j) (ev (.tmp 19)) x w := hA.val 14 _ 19 rfl (hp ⟨14, .data⟩ (by simp) rfl) rfl
    have hcc := hA.const
    clear hA hp
    obtain ⟨b, hxb, e3⟩ := e3
    obtain ⟨a, cap, e19, q2, q3, q4⟩ := e19
    have hX := (hI.box b hxb).2.2.1 (Reg.getD_true hk)
    obtain ⟨hX', hbS⟩ := box_set3 hX (.int .i64 kind) (.slice a n cap) (.int .i64 N)
    obtain ⟨hP, hG⟩ := hI.store hk (by decide) hxb hbS ⟨a, cap, hX', q2.but hbS (fun j hj e => q4 j hj b hxb e.symm), q3, fun j hj e => q4 j hj b hxb e.symm⟩
    obtain ⟨x80, z80⟩ := hX.get 0 _ rfl
    obtain ⟨x81, z81⟩ := hX.get 1 _ rfl
    obtain ⟨x82, z82⟩ := hX.get 2 _ rfl
    refine Reg.out_skipP (w' := ((w.setCell ⟨b, 0, none⟩ (.int .i64 kind)).setCell ⟨b, 1, none⟩ (.slice a n cap)).setCell ⟨b, 2, none⟩ (.int .i64 N)) ?_ ⟨x, trivial, hP, hG⟩
    clear hI hk hP hG hX hX' hbS
    go_simp
  · refine Reg.GStepAt.plain (i := 18) rfl ?_
    intro x L ev w hI hk hp hA
    have e20 : ev (.tmp 20) = .int .i64 0 := hA.val 15 _ 20 rfl (hp ⟨15, .data⟩ (by simp) rfl) rfl
    have hcc := hA.const
    clear hA hp
    refine Reg.out_value (v := .int .i64 0) ?_ ⟨x, rfl, Gb.Pres.refl _ _, hI.quiet 18 (by decide) (by decide)⟩
    go_simp
  intro gx L act wz hall hI hF
  have g6 : act.eval (.tmp 6) = .pointer (some ⟨eb, 0, none⟩) := hF.val 0 _ 6 rfl (hall 0 (by simp)) rfl
  have g7 : act.eval (.tmp 7) = .pointer (some ⟨eb, 0, none⟩) := hF.val 1 _ 7 rfl (hall 1 (by simp)) rfl
  have g8 : act.eval (.tmp 8) = .pointer (some ⟨eb, 0, none⟩) := hF.val 2 _ 8 rfl (hall 2 (by simp)) rfl
  have g9 : act.eval (.tmp 9) = .int .i64 kind := hF.val 3 _ 9 rfl (hall 3 (by simp)) rfl
  have g10 : act.eval (.tmp 10) = .pointer (some ⟨eb, 0, none⟩) := hF.val 4 _ 10 rfl (hall 4 (by simp)) rfl
  have g11 : act.eval (.tmp 11) = .pointer (some ⟨eb, 0, none⟩) := hF.val 5 _ 11 rfl (hall 5 (by simp)) rfl
  have g12 : act.eval (.tmp 12) = .pointer (some ⟨eb, 1, none⟩) := hF.val 6 _ 12 rfl (hall 6 (by simp)) rfl
  have g13 : act.eval (.tmp 13) = .int .i64 param := hF.val 7 _ 13 rfl (hall 7 (by simp)) rfl
  have g14 : act.eval (.tmp 14) = .pointer (some ⟨eb, 0, none⟩) := hF.val 8 _ 14 rfl (hall 8 (by simp)) rfl
  have g15 : act.eval (.tmp 15) = .pointer (some ⟨eb, 0, none⟩) := hF.val 9 _ 15 rfl (hall 9 (by simp)) rfl
  have g16 : act.eval (.tmp 16) = .pointer (some ⟨eb, 3, none⟩) := hF.val 10 _ 16 rfl (hall 10 (by simp)) rfl
  have g17 : act.eval (.tmp 17) = .pointer (some ⟨mb, 0, none⟩) := hF.val 11 _ 17 rfl (hall 11 (by simp)) rfl
  have g18 : (fun v x w => ∃ a cap, v = .tuple #[.agg #[.int .i64 kind, .slice a n cap, .int .i64 N], .int .i64 0] ∧ SlAt 2 w a cap n l ∧ (∀ j, inB a j → lo ≤ j) ∧ ∀ j, inB a j → Gb.Apart x j) (act.eval (.tmp 18)) gx wz := hF.val 12 _ 18 rfl (hall 12 (by simp)) rfl
  have g5 : (fun v x w => ∃ a cap, v = .tuple #[.agg #[.int .i64 kind, .slice a n cap, .int .i64 N], .int .i64 0] ∧ SlAt 2 w a cap n l ∧ (∀ j, inB a j → lo ≤ j) ∧ ∀ j, inB a j → Gb.Apart x j) (act.eval (.tmp 5)) gx wz := hF.val 13 _ 5 rfl (hall 13 (by simp)) rfl
  have g19 : (fun v x w => ∃ a cap, v = .agg #[.int .i64 kind, .slice a n cap, .int .i64 N] ∧ SlAt 2 w a cap n l ∧ (∀ j, inB a j → lo ≤ j) ∧ ∀ j, inB a j → Gb.Apart x j) (act.eval (.tmp 19)) gx wz := hF.val 14 _ 19 rfl (hall 14 (by simp)) rfl
  have g20 : act.eval (.tmp 20) = .int .i64 0 := hF.val 15 _ 20 rfl (hall 15 (by simp)) rfl
  have g3 : (fun v x _ => ∃ b, x = some b ∧ v = .pointer (some ⟨b, 0, none⟩)) (act.eval (.tmp 3)) gx wz := hF.val 16 _ 3 rfl (hall 16 (by simp)) rfl
  have g4 : act.eval (.tmp 4) = .int .i64 0 := hF.val 18 _ 4 rfl (hall 18 (by simp)) rfl
  have hact := hF.act [6, 7, 8, 9, 10, 11, 12, 13, 14, 15, 16, 17, 18, 5, 19, 20, 3, 4] (by kernel_rfl)
  have hSz : L.getD 17 false = true := hall 17 (by simp)
  clear hF hall
  simp only [List.foldl_cons, List.foldl_nil] at hact
  rw [g6, g7, g8, g9, g10, g11, g12, g13, g14, g15, g16, g17, g20, g4] at hact
  clear g6 g7 g8 g9 g10 g11 g12 g13 g14 g15 g16 g17 g20 g4
  generalize act.eval (.tmp 18) = u18 at hact g18
  generalize act.eval (.tmp 5) = u5 at hact g5
  generalize act.eval (.tmp 19) = u19 at hact g19
  generalize act.eval (.tmp 3) = u3 at hact g3
  simp only [List.setIfInBounds_toArray, List.set_cons_succ, List.set_cons_zero] at hact
  subst hact
  obtain ⟨bb, hgx, rfl⟩ := g3
  obtain ⟨hlb, hbl, _, hVb⟩ := hI.box bb hgx
  obtain ⟨a, cap, hX, hSl, hAl, hAb⟩ := hVb hSz
  have hIz : Below W1.heap.size W1 wz := hI.bel
  have hR := H1.out.2.1.below hIz
  obtain ⟨⟨x0, y0⟩, ⟨x1, y1⟩, ⟨x2, y2⟩⟩ := three_set hX
  obtain ⟨⟨r0, z0⟩, ⟨r1, z1⟩, ⟨r2, z2⟩⟩ := three_set hR
  have hrl := hR.lt
  have HE := hidq (show Below w.heap.size w wz ∧ SlAt 2 wz a cap n l ∧ (∀ j, inB a j → b1 + 1 ≤ j) ∧ w.heap.size = b1 from ⟨H1.out.1.trans (hIz.mono H1.out.1.size), hSl, fun j hj => by have := hAl j hj; have := H1.out.2.2; omega, hb1⟩)
  have hne : bb ≠ b1 := by have := H1.out.2.1.lt; omega
  clear hI hgx hlb hVb hIz hX hR hSz FC FM HV H1 HW hSl hAl hAb
  go_wp2
  refine bodyPost_ret (v := .agg #[.int .i64 kind, .slice a n cap, .int .i64 N]) (by simp [results, Tryz.results12, go_sem, r0, r1, r2]) rfl ?_
  obtain ⟨hall, hS, hA, hw⟩ := HE.out
  refine ⟨a, cap, rfl, ?_, fun j hj => by have := hA j hj; omega, ((hall.setCell (p := ⟨b1, 0, none⟩) (by show w.heap.size ≤ b1; omega) _).setCell (p := ⟨b1, 1, none⟩) (by show w.heap.size ≤ b1; omega) _).setCell (p := ⟨b1, 2, none⟩) (by show w.heap.size ≤ b1; omega) _⟩
  exact hS.but (S := fun j => j = b1) ((((But.refl (fun j => j = b1) wz).set1 b1 0 rfl _).set1 b1 1 rfl _).set1 b1 2 rfl _) (fun j hj e => by have := hA j hj; omega)
end Go.Proofs.YtbcmilfajeanbaaGreat

namespace Go.Proofs.YtbcmilfajeanbaaGreat
open Go.RowKit Go.Sort

section
variable (eb : Nat) (kind param : Int) (T : TypeId) (mv : Value) (mb : Nat) (Q : Nat → Option Nat) (closed : Bool) (steps : Int) (w : World)
theorem kind_any (h : BoxAt w eb (ecells kind param T mv mb Q closed steps)) : Calls Tryz.prog 27 #[.pointer (some ⟨eb, 0, none⟩)] w fun e w' => e = .returned (.int .i64 kind) ∧ w' = w := by
  have f0 := (h.get 0 _ rfl).1
  have hl := h.lt
  clear h
  go_enter Tryz.func27, Tryz.ntmps27
  go_wp2
  go_ret
  exact ⟨rfl, rfl⟩
theorem steps_any (h : BoxAt w eb (ecells kind param T mv mb Q closed steps)) : Calls Tryz.prog 14 #[.pointer (some ⟨eb, 0, none⟩)] w fun e w' => e = .returned (.int .i64 steps) ∧ w' = w := by
  have f0 := (h.get 11 _ rfl).1
  have hl := h.lt
  clear h
  go_enter Tryz.func14, Tryz.ntmps14
  go_wp2
  go_ret
  exact ⟨rfl, rfl⟩
theorem memory_any (h : BoxAt w eb (ecells kind param T mv mb Q closed steps)) : Calls Tryz.prog 15 #[.pointer (some ⟨eb, 0, none⟩)] w fun e w' => e = .returned (.pointer (some ⟨mb, 0, none⟩)) ∧ w' = w := by
  have f0 := (h.get 3 _ rfl).1
  have hl := h.lt
  clear h
  go_enter Tryz.func15, Tryz.ntmps15
  go_wp2
  go_ret
  exact ⟨rfl, rfl⟩
end

theorem machine0_any (k p : Int) (hk : ¬ (1 ≤ k ∧ k ≤ 4)) (w : World) : Calls Tryz.prog 51 #[.int .i64 k, .int .i64 p] w fun e w' => e = .returned (.tuple #[.nilIface, .int .i64 6]) ∧ Below w.heap.size w w' := by
  have hL := fun w => legal_any k p w
  rw [legal_kind hk] at hL
  have k1 : (k == 1) = false := by simp; omega
  have k2 : (k == 2) = false := by simp; omega
  have k3 : (k == 3) = false := by simp; omega
  have k4 : (k == 4) = false := by simp; omega
  clear hk
  go_enter Tryz.func51, Tryz.ntmps51
  go_wp2_with fail
  refine (hL _).mono ?_
  rintro e w1 ⟨rfl, hb⟩
  have HB := hidq hb
  clear hb hL
  go_wp2
  go_ret2
  exact ⟨rfl, HB.out⟩
theorem with0_any (k p : Int) (hk : ¬ (1 ≤ k ∧ k ≤ 4)) (m : Value) (w : World) : Calls Tryz.prog 28 #[.int .i64 k, .int .i64 p, m] w fun e w' => e = .returned (.tuple #[.pointer none, .int .i64 6]) ∧ Below w.heap.size w w' := by
  have hM := fun w => machine0_any k p hk w
  clear hk
  go_enter Tryz.func28, Tryz.ntmps28
  go_wp2_with fail
  refine (hM _).mono ?_
  rintro e w1 ⟨rfl, hb⟩
  have HB := hidq hb
  clear hb hM
  go_wp2
  go_ret2
  exact ⟨rfl, HB.out⟩
theorem new0_any (k p : Int) (hk : ¬ (1 ≤ k ∧ k ≤ 4)) (w : World) : Calls Tryz.prog 7 #[.int .i64 k, .int .i64 p] w fun e w' => e = .returned (.tuple #[.pointer none, .int .i64 6]) ∧ Below w.heap.size w w' := by
  have hW := fun m w => with0_any k p hk m w
  clear hk
  go_enter Tryz.func7, Tryz.ntmps7
  go_wp2_with fail
  refine (new5_any _).mono ?_
  rintro e w1 ⟨rfl, _, hb1⟩
  have H1 := hidq hb1
  clear hb1
  go_wp2_with fail
  refine (hW _ _).mono ?_
  rintro e w2 ⟨rfl, hb2⟩
  have H2 := hidq (H1.out.trans (hb2.mono H1.out.size))
  clear hb2 hW H1
  go_wp2
  go_ret2
  exact ⟨rfl, H2.out⟩
end Go.Proofs.YtbcmilfajeanbaaGreat
