/-
  Layer 8: operations one by one: what they come to; a table of lists.
-/
import Derived.Test.YtclcmabohpoaiaaOpOf6All
import Derived.Test.YtclcmabohpoaiaaLive8All
import Derived.Test.YtclcmabohpoaiaaOps6All
import Derived.Test.YtclcmabohpoaiaaBoxS
namespace Go.Proofs.Ytclcmabohpoaiaa
open Go.RowKit Go.Sort

theorem own1_k (kx x : Int) : (ownK 1 kx = 1 ∨ ownK 1 kx = 2) ∧ ownV 1 kx x = x := by
  have h : ownK 1 kx = 1 + into kx 2 := rfl
  have hr := into_rng (d := kx) (n := 2) (by decide)
  have hv : ownV 1 kx x = x := by unfold ownV; rw [if_neg (by omega)]
  exact ⟨by omega, hv⟩
theorem MOk.put {M : Mem} (h : MOk M) (i : Nat) (x : Int) (L : List It) (hL : KOk 62 L) : MOk (M.put i x L) := fun j => by
  unfold Mem.put
  dsimp only
  split
  · exact hL
  · exact h j
theorem mput_same (M : Mem) (i : Nat) (n : Int) (L : List It) : ((M.put i n L).cell i).L = L := by show (if i = i then _ else _ : CV).L = _; rw [if_pos rfl]
theorem mput_other (M : Mem) {i j : Nat} (n : Int) (L : List It) (h : j ≠ i) : ((M.put i n L).cell j).L = (M.cell j).L := by show (if j = i then _ else _ : CV).L = _; rw [if_neg h]
theorem srt_ins {x : KI} {L : List KI} (h : InOrder L) : srt (x :: L) = ins x L :=
  order_eq _ _ ((srt_perm _).trans (ins_perm x L).symm) (srt_order _) (ins_order x L h)
theorem InOrder.tail {x : KI} {L : List KI} (h : InOrder (x :: L)) : InOrder L := (List.pairwise_cons.1 h).2

/-- A new table of empty lists. -/
theorem zerosV (T E : TypeId) (n : Nat) (hn : n ≤ 1000) (hu : Try.prog.underlying T = some (.slice E)) (h : (Try.prog.info? E).map (fun i => (i.zero, i.size, i.bytes)) = some (some (.slice none 0 0), 1, 24)) (w : World) :
    (Instr.makeSlice T (.int .i64 (n : Int)) (.int .i64 (n : Int))).run Try.prog w = .ok (.slice (some ⟨w.heap.size, 0, none⟩) n n) (w.alloc (.cells (List.replicate n (Value.slice none 0 0)).toArray E)) := by
  obtain ⟨i, hi, he⟩ := Option.map_eq_some_iff.1 h
  simp only [Prod.mk.injEq] at he
  have hr := run_make (P := Try.prog) w T E i _ hu hi he.1 .i64 .i64 (n : Int) (n : Int) (by omega) (Int.le_refl _) (by rw [he.2.2]; omega) (by omega)
  rw [hr, he.2.1]
  simp only [Int.toNat_natCast, Nat.mul_one]
  refine congrArg (fun c => Result.ok (Value.slice (some ⟨w.heap.size, 0, none⟩) n n) (w.alloc (Obj.cells c E))) ?_
  apply Array.ext
  · simp [madeCells]
  · intro i h1 h2
    simp [madeCells, Value.cells, Nat.mod_one]
theorem zerosS (n : Nat) (hn : n ≤ 1000) (w : World) :
    (Instr.makeSlice 32 (.int .i64 (n : Int)) (.int .i64 (n : Int))).run Try.prog w = .ok (.slice (some ⟨w.heap.size, 0, none⟩) n n) (w.alloc (.cells (Array.replicate n (Value.slice none 0 0)) 52)) := by
  have := zerosV _ _ n hn Try.underlying32 (by kernel_rfl) w
  rw [List.toArray_replicate] at this
  exact this
theorem alone_clk {G : Mem → Fr → Prop} {st : StepFn} (hf : Fine G st) : ∀ (n : Nat) (M : Mem) (F : Fr), (alone st n M F).1.clock ≤ M.clock + n
  | 0, _, _ => Nat.le_refl _
  | n + 1, M, F => by
    have h1 := hf.clock M F
    unfold alone
    split
    · show (st M F).1.clock ≤ _; omega
    · have := alone_clk hf n (st M F).1 (st M F).2.1
      omega

/-- Lists, one of them laid anew. -/
def upd {α : Type} (f : Nat → α) (p : Nat) (v : α) : Nat → α := fun j => if j = p then v else f j
theorem upd_same {α : Type} (f : Nat → α) (p : Nat) (v : α) : upd f p v p = v := if_pos rfl
theorem upd_other {α : Type} (f : Nat → α) {p j : Nat} (v : α) (h : j ≠ p) : upd f p v j = f j := if_neg h
theorem range_set {α : Type} (f : Nat → α) (n p : Nat) (v : α) : ((List.range n).map f).set p v = (List.range n).map (upd f p v) := by
  apply List.ext_getElem?
  intro j
  rw [List.getElem?_set, List.length_map, List.length_range]
  by_cases hj : j < n
  · rw [List.getElem?_map, List.getElem?_map, List.getElem?_range hj]
    by_cases e : p = j
    · subst e; rw [if_pos rfl, if_pos hj]; simp [upd]
    · rw [if_neg e]; simp [upd, Ne.symm e]
  · have h1 : ((List.range n).map f)[j]? = none := by rw [List.getElem?_eq_none]; simpa using hj
    have h2 : ((List.range n).map (upd f p v))[j]? = none := by rw [List.getElem?_eq_none]; simpa using hj
    rw [h1, h2]
    split
    · rw [if_neg (by omega)]
    · rfl

/-- One operation alone: what it comes to. -/
def mMove (A B : List KI) : Bool := match A, B with
  | [], _ => true
  | _ :: _, [] => false
  | x :: _, y :: _ => y.lt x
theorem m_way {sh : Nat} {M : Mem} {L : Nat → List KI} {kk : Int} {pr : Nat} (x d0 d1 : Int) {p q i : Nat} (hs : 1 ≤ sh ∧ sh ≤ 16) (hp : into d0 (sh : Int) = (p : Int)) (hq : into d1 (sh : Int) = (q : Int)) (hpl : p < sh) (hql : q < sh)
    (hM : MOk M) (hL : ∀ j, j < sh → (M.cell j).L = kit (L j) ∧ (L j).length ≤ i) (hi : i ≤ 19) (hkk : kk = 1 ∨ kk = 2) :
    ∃ M' A L', alone (mStep sh) 3 M (Fr.of kk pr x d0 d1) = (M', A, true) ∧ MOk M' ∧ (∀ j, j < sh → (M'.cell j).L = kit (L' j) ∧ (L' j).length ≤ i + 1) ∧
      ((kk = 1 ∧ A = ⟨true, cbits pr, x, 0⟩ ∧ L' = upd L p (ins (mkKI pr x) (L p))) ∨
       (kk = 2 ∧ ∃ r, r = (if mMove (L p) (L q) = true then q else p) ∧ L' = upd L r (L r).tail ∧ ((L r = [] ∧ A = Ans.zero ∧ L p = [] ∧ L q = []) ∨ (∃ z K, L r = z :: K ∧ A = ⟨true, z.b, z.v, 0⟩)))) := by
  have hsI : (1 : Int) ≤ (sh : Int) ∧ (sh : Int) ≤ 16 := by omega
  have hO : ∀ j, j < sh → InOrder (L j) := fun j hj => by
    obtain ⟨K, h1, h2, _⟩ := hM j
    rw [(hL j hj).1] at h1
    have := congrArg kis h1
    rw [kis_kit, kis_kit] at this
    rw [this]; exact h2
  have hk : ∀ j, j < sh → kis (M.cell j).L = L j := fun j hj => by rw [(hL j hj).1, kis_kit]
  rcases hkk with rfl | rfl
  · have hln : ¬ 62 ≤ (M.cell p).L.length := by rw [(hL p hpl).1, kit_length]; have := (hL p hpl).2; omega
    refine ⟨_, _, _, alone_ins (sh : Int) hsI M pr 1 x d0 d1 p hp hln, ?_, ?_, .inl ⟨rfl, rfl, rfl⟩⟩
    · refine hM.put p 0 _ ⟨ins (mkKI pr x) (L p), ?_, ins_order _ _ (hO p hpl), ?_⟩
      · unfold mWith; rw [hk p hpl, srt_ins (hO p hpl)]
      · have := (ins_perm (mkKI pr x) (L p)).length_eq; simp at this; have := (hL p hpl).2; omega
    · intro j hj
      by_cases e : j = p
      · subst e
        rw [mput_same, upd_same]
        refine ⟨by unfold mWith; rw [hk j hj, srt_ins (hO j hj)], ?_⟩
        have := (ins_perm (mkKI pr x) (L j)).length_eq; simp at this; have := (hL j hj).2; omega
      · rw [mput_other _ _ _ e, upd_other _ _ e]
        have := hL j hj
        exact ⟨this.1, by omega⟩
  · have none : (mAhead (L p) (L q)).2 = false → L p = [] ∧ L q = [] := fun h => by
      match hA : L p, hB : L q with
      | [], [] => exact ⟨rfl, rfl⟩
      | _ :: _, [] => rw [hA, hB] at h; cases h
      | [], _ :: _ => rw [hA, hB] at h; cases h
      | a :: _, b :: _ => rw [hA, hB] at h; unfold mAhead at h; dsimp only at h; split at h <;> cases h
    have some : ∀ r z K, r < sh → L r = z :: K → (∀ j, j < sh → ((M.put r 0 (kit K)).cell j).L = kit (upd L r (L r).tail j) ∧ (upd L r (L r).tail j).length ≤ i + 1) ∧ MOk (M.put r 0 (kit K)) := fun r z K hr hz => by
      have hK := (hL r hr).2
      have hOr := hO r hr
      rw [hz] at hK hOr
      simp only [List.length_cons] at hK
      refine ⟨fun j hj => ?_, hM.put r 0 _ ⟨K, rfl, hOr.tail, by omega⟩⟩
      by_cases e : j = r
      · subst e
        rw [mput_same, upd_same, hz]
        exact ⟨rfl, by show K.length ≤ _; omega⟩
      · rw [mput_other _ _ _ e, upd_other _ _ e]
        have := hL j hj
        exact ⟨this.1, by omega⟩
    by_cases hn : (mAhead (L p) (L q)).2 = false
    · obtain ⟨e1, e2⟩ := none hn
      refine ⟨_, _, _, alone_del_none (sh : Int) M pr 1 x d0 d1 p q hp hq (by rw [hk p hpl, hk q hql]; exact hn), hM, ?_, .inr ⟨rfl, q, by rw [e1]; rfl, rfl, .inl ⟨e2, rfl, e1, e2⟩⟩⟩
      intro j hj
      have := hL j hj
      by_cases e : j = q
      · subst e; rw [upd_same, this.1, e2]; exact ⟨rfl, Nat.zero_le _⟩
      · rw [upd_other _ _ e]; exact ⟨this.1, by omega⟩
    · match hA : L p, hB : L q with
      | [], [] => rw [hA, hB] at hn; exact absurd rfl hn
      | z :: K, [] =>
        obtain ⟨s1, s2⟩ := some p z K hpl hA
        refine ⟨_, _, _, alone_del (sh : Int) hsI M pr 0 x d0 d1 p q z K hp hq p (.inl ⟨by rw [hk p hpl, hk q hql, hA, hB]; rfl, by rw [hk p hpl, hA], rfl⟩), s2, s1, .inr ⟨rfl, p, rfl, rfl, .inr ⟨z, K, hA, rfl⟩⟩⟩
      | [], z :: K =>
        obtain ⟨s1, s2⟩ := some q z K hql hB
        refine ⟨_, _, _, alone_del (sh : Int) hsI M pr 0 x d0 d1 p q z K hp hq q (.inr ⟨by rw [hk p hpl, hk q hql, hA, hB]; rfl, by rw [hk q hql, hB], rfl⟩), s2, s1, .inr ⟨rfl, q, rfl, rfl, .inr ⟨z, K, hB, rfl⟩⟩⟩
      | z :: K, y :: K' =>
        by_cases hlt : y.lt z = true
        · obtain ⟨s1, s2⟩ := some q y K' hql hB
          refine ⟨_, _, _, alone_del (sh : Int) hsI M pr 0 x d0 d1 p q y K' hp hq q (.inr ⟨by rw [hk p hpl, hk q hql, hA, hB]; unfold mAhead; dsimp only; rw [if_pos hlt], by rw [hk q hql, hB], rfl⟩), s2, s1, .inr ⟨rfl, q, by unfold mMove; dsimp only; rw [if_pos hlt], rfl, .inr ⟨y, K', hB, rfl⟩⟩⟩
        · obtain ⟨s1, s2⟩ := some p z K hpl hA
          refine ⟨_, _, _, alone_del (sh : Int) hsI M pr 0 x d0 d1 p q z K hp hq p (.inl ⟨by rw [hk p hpl, hk q hql, hA, hB]; unfold mAhead; dsimp only; rw [if_neg hlt], by rw [hk p hpl, hA], rfl⟩), s2, s1, .inr ⟨rfl, p, by unfold mMove; dsimp only; rw [if_neg hlt], rfl, .inr ⟨z, K, hA, rfl⟩⟩⟩

/-- The first one of a list, and the others. -/
theorem RdR.head {w : World} {a : Option Addr} {z : KI} {K : List KI} (h : RdR w a (z :: K)) : ∃ g off, a = some ⟨g, off, none⟩ ∧ g < w.heap.size ∧ w.cell? ⟨g, off, none⟩ = some (.int .u64 (ni z.b)) ∧ w.cell? ⟨g, off + 1, none⟩ = some (.int .i64 z.v) ∧
    ∀ o9, (K = [] ∨ o9 = off + 2) → RdR w (some ⟨g, o9, none⟩) K := by
  obtain ⟨g, off, h1, h2, h3, h4⟩ := h 0 (by simp)
  rw [Nat.zero_mul, Nat.add_zero] at h3 h4
  refine ⟨g, off, h1, h2, h3, h4, fun o9 ho i hi => ?_⟩
  obtain ⟨g', off', e1, e2, e3, e4⟩ := h (i + 1) (by simp; omega)
  rw [h1] at e1
  injection e1 with e1
  injection e1 with e5 e6
  subst e5; subst e6
  have ho9 : o9 = off + 2 := by
    rcases ho with e | e
    · subst e; simp at hi
    · exact e
  subst ho9
  rw [show off + (i + 1) * 2 = off + 2 + i * 2 by omega] at e3 e4
  exact ⟨g, off + 2, rfl, e2, e3, e4⟩

/-- What is there: a table of lists. -/
structure HT (w : World) (hb sh i : Nat) (a : Nat → Option Addr) (c : Nat → Nat) (L : Nat → List KI) (O : Nat → Prop) (wr : World) : Prop where
  box : BoxAt wr hb ((List.range sh).map fun p => .slice (a p) (L p).length (c p))
  row : ∀ p, p < sh → (L p).length ≤ i ∧ RdR wr (a p) (L p) ∧ (L p).length ≤ c p ∧ ∀ j, inB (a p) j → w.heap.size ≤ j ∧ j < wr.heap.size ∧ j ≠ hb ∧ ¬ O j
theorem HT.below {w : World} {hb sh i : Nat} {a : Nat → Option Addr} {c : Nat → Nat} {L : Nat → List KI} {O : Nat → Prop} {wr W : World} (h : HT w hb sh i a c L O wr) (hb' : Below wr.heap.size wr W) : HT w hb sh i a c L O W :=
  ⟨h.box.below hb', fun p hp => by
    obtain ⟨h1, h2, h3, h4⟩ := h.row p hp
    exact ⟨h1, h2.below hb', h3, fun j hj => by
      obtain ⟨e1, e2, e3, e4⟩ := h4 j hj
      exact ⟨e1, Nat.lt_of_lt_of_le e2 hb'.size, e3, e4⟩⟩⟩
/-- The cell of a list. -/
theorem HT.cell {w : World} {hb sh i : Nat} {a : Nat → Option Addr} {c : Nat → Nat} {L : Nat → List KI} {O : Nat → Prop} {wr : World} (h : HT w hb sh i a c L O wr) {p : Nat} (hp : p < sh) : wr.cell? ⟨hb, p, none⟩ = some (.slice (a p) (L p).length (c p)) ∧ wr.frozen? ⟨hb, p, none⟩ = false := by
  refine h.box.get p _ ?_
  rw [List.getElem?_map, List.getElem?_range hp]; rfl
/-- A list laid anew. -/
theorem HT.turn {w : World} {hb sh i : Nat} {a : Nat → Option Addr} {c : Nat → Nat} {L : Nat → List KI} {O : Nat → Prop} {wr : World} (h : HT w hb sh i a c L O wr) {r : Nat} (K : List KI) (a9 : Option Addr) (c9 : Nat)
    (hK : K.length ≤ i + 1) (hrow : RdR wr a9 K) (hc : K.length ≤ c9) (hin : ∀ j, inB a9 j → w.heap.size ≤ j ∧ j < wr.heap.size ∧ j ≠ hb ∧ ¬ O j) :
    HT w hb sh (i + 1) (upd a r a9) (upd c r c9) (upd L r K) O (wr.setCell ⟨hb, r, none⟩ (.slice a9 K.length c9)) := by
  have hbt : But (fun j => j = hb) wr (wr.setCell ⟨hb, r, none⟩ (.slice a9 K.length c9)) := (But.refl (fun j => j = hb) wr).set1 hb r rfl _
  refine ⟨?_, fun p hp => ?_⟩
  · have := h.box.set r (.slice a9 K.length c9)
    rw [range_set] at this
    refine this.same (congrArg (fun f => (List.range sh).map f) (funext fun p => ?_))
    by_cases e : p = r
    · subst e; rw [upd_same, upd_same, upd_same, upd_same]
    · rw [upd_other _ _ e, upd_other _ _ e, upd_other _ _ e, upd_other _ _ e]
  · by_cases e : p = r
    · subst e
      rw [upd_same, upd_same, upd_same]
      exact ⟨hK, hrow.but hbt (fun j hj e => (hin j hj).2.2.1 e), hc, fun j hj => by rw [World.size_setCell]; exact hin j hj⟩
    · rw [upd_other _ _ e, upd_other _ _ e, upd_other _ _ e]
      obtain ⟨h1, h2, h3, h4⟩ := h.row p hp
      exact ⟨by omega, h2.but hbt (fun j hj e => (h4 j hj).2.2.1 e), h3, fun j hj => by rw [World.size_setCell]; exact h4 j hj⟩
/-- Behind so many operations, one by one. -/
def MA (w : World) (sb mb hb sh i : Nat) (a : Nat → Option Addr) (c : Nat → Nat) (L : Nat → List KI) (wr : World) : Prop :=
  ∃ (O : Nat → Prop) (M : Mem), St w wr sb [.int .i64 (sh : Int)] mb O M ∧ MOk M ∧ M.clock ≤ 3 * i ∧ w.heap.size ≤ hb ∧ ¬ O hb ∧ hb ≠ sb ∧ (∀ j, j < sh → (M.cell j).L = kit (L j)) ∧ HT w hb sh i a c L O wr

end Go.Proofs.Ytclcmabohpoaiaa
