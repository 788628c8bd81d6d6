/-
  Layer 11: a token's way through a network, step by step: the plain mathematics.
-/
import Derived.Test.YtbcmilfajeanbaaGreatTokMath
import Derived.Test.YtbcmilfajeanbaaGreatRegionAll
namespace Go.Proofs.YtbcmilfajeanbaaGreat
open Go.RowKit Go.Sort

/-- The first gate from a place on that joins a wire. -/
def ahd : List (Nat × Nat) → Nat → Nat → Option Nat
  | [], _, _ => none
  | g :: gs, i, v => if g.1 = v ∨ g.2 = v then some i else ahd gs (i + 1) v
def nAhead (G : List (Nat × Nat)) (p v : Nat) : Option Nat := ahd (G.drop p) p v
theorem nAhead_end {G : List (Nat × Nat)} {p v : Nat} (h : G.length ≤ p) : nAhead G p v = none := by
  unfold nAhead; rw [List.drop_eq_nil_of_le h]; rfl
theorem nAhead_hit {G : List (Nat × Nat)} {p v : Nat} {g : Nat × Nat} (hg : G[p]? = some g) (h : g.1 = v ∨ g.2 = v) : nAhead G p v = some p := by
  obtain ⟨hp, he⟩ := List.getElem?_eq_some_iff.1 hg
  unfold nAhead; rw [List.drop_eq_getElem_cons hp, he, ahd, if_pos h]
theorem nAhead_miss {G : List (Nat × Nat)} {p v : Nat} {g : Nat × Nat} (hg : G[p]? = some g) (h : ¬ (g.1 = v ∨ g.2 = v)) : nAhead G p v = nAhead G (p + 1) v := by
  obtain ⟨hp, he⟩ := List.getElem?_eq_some_iff.1 hg
  unfold nAhead; rw [List.drop_eq_getElem_cons hp, he, ahd, if_neg h]
theorem nAhead_some : ∀ (k : Nat) {G : List (Nat × Nat)} {p v i : Nat}, G.length - p ≤ k → nAhead G p v = some i → p ≤ i ∧ ∃ g, G[i]? = some g ∧ (g.1 = v ∨ g.2 = v)
  | 0, G, p, v, i, hk, h => by rw [nAhead_end (by omega)] at h; cases h
  | k + 1, G, p, v, i, hk, h => by
    by_cases hp : p < G.length
    · have hg : G[p]? = some G[p] := List.getElem?_eq_getElem hp
      by_cases hh : G[p].1 = v ∨ G[p].2 = v
      · rw [nAhead_hit hg hh] at h; cases h; exact ⟨Nat.le_refl _, _, hg, hh⟩
      · rw [nAhead_miss hg hh] at h
        obtain ⟨h1, h2⟩ := nAhead_some k (by omega) h
        exact ⟨by omega, h2⟩
    · rw [nAhead_end (by omega)] at h; cases h

/-- One more in a cell. -/
def bump (M : Mem) (i : Nat) : Mem := M.put i ((M.cell i).n + 1) []
theorem bump_n (M : Mem) (i j : Nat) : ((bump M i).cell j).n = if j = i then (M.cell i).n + 1 else (M.cell j).n := by
  show (if j = i then (⟨_, _, _⟩ : CV) else M.cell j).n = _
  split <;> rfl
theorem bump_clock (M : Mem) (i : Nat) : (bump M i).clock = M.clock + 1 := rfl
/-- Numbers that are no more than there were writes. -/
def NOk (M : Mem) : Prop := ∀ i, 0 ≤ (M.cell i).n ∧ (M.cell i).n ≤ (M.clock : Int)
theorem NOk.empty : NOk Mem.empty := fun _ => ⟨Int.le_refl _, Int.le_refl _⟩
theorem NOk.bump {M : Mem} (h : NOk M) (i : Nat) : NOk (bump M i) := fun j => by
  rw [bump_n, bump_clock]
  have := h i
  have := h j
  split <;> omega

/-- Where a token is. -/
def nWire (n : Nat) (F : Fr) : Nat := (if F.pc = 0 then into F.d0 (n : Int) else F.at_).toNat
/-- A token's step. -/
def nStep (n c : Nat) (G : List (Nat × Nat)) (Os : List Nat) : StepFn := fun M F =>
  match nAhead G F.pc.toNat (nWire n F) with
  | some i => (bump M i, { F with pc := ((i + 1 : Nat) : Int), at_ := (((if (M.cell i).n % 2 = 0 then (G.getD i (0, 0)).1 else (G.getD i (0, 0)).2) : Nat) : Int) }, Ans.zero, false)
  | none => (bump M (c + Os.idxOf (nWire n F)), { F with at_ := (nWire n F : Int) }, ⟨true, 0, 0, (Os.idxOf (nWire n F) : Int) + (n : Int) * (M.cell (c + Os.idxOf (nWire n F))).n⟩, true)
/-- What is asked of a frame, and a memory. -/
def nGood (n c : Nat) (M : Mem) (F : Fr) : Prop := F.kind = 7 ∧ 0 ≤ F.pc ∧ F.pc ≤ (c : Int) ∧ 0 ≤ F.at_ ∧ F.at_ < (n : Int) ∧ NOk M
theorem nWire_lt {n c : Nat} {M : Mem} {F : Fr} (hn : 1 ≤ n) (h : nGood n c M F) : nWire n F < n := by
  obtain ⟨_, _, _, h1, h2, _⟩ := h
  have := into_rng (d := F.d0) (n := (n : Int)) (by omega)
  unfold nWire
  split <;> omega
theorem nStep_some {n c : Nat} {G : List (Nat × Nat)} {Os : List Nat} {M : Mem} {F : Fr} {i : Nat} {g : Nat × Nat} (h : nAhead G F.pc.toNat (nWire n F) = some i) (hg : G[i]? = some g) :
    nStep n c G Os M F = (bump M i, { F with pc := ((i + 1 : Nat) : Int), at_ := (((if (M.cell i).n % 2 = 0 then g.1 else g.2) : Nat) : Int) }, Ans.zero, false) := by
  unfold nStep; rw [h]; dsimp only; rw [List.getD_eq_getElem?_getD, hg]; rfl
theorem nStep_none {n c : Nat} {G : List (Nat × Nat)} {Os : List Nat} {M : Mem} {F : Fr} (h : nAhead G F.pc.toNat (nWire n F) = none) :
    nStep n c G Os M F = (bump M (c + Os.idxOf (nWire n F)), { F with at_ := (nWire n F : Int) }, ⟨true, 0, 0, (Os.idxOf (nWire n F) : Int) + (n : Int) * (M.cell (c + Os.idxOf (nWire n F))).n⟩, true) := by
  unfold nStep; rw [h]
/-- A machine whose steps keep to what is asked of them. -/
theorem nFine {n c : Nat} {G : List (Nat × Nat)} (Os : List Nat) (hc : G.length = c) (hG : ∀ g ∈ G, g.1 < n ∧ g.2 < n) : Fine (nGood n c) (nStep n c G Os) := by
  refine ⟨fun M F hg hd => ?_, fun M F => ?_⟩
  · cases h : nAhead G F.pc.toNat (nWire n F) with
    | none => rw [nStep_none h] at hd; cases hd
    | some i =>
      obtain ⟨_, g, hgi, _⟩ := nAhead_some _ (Nat.le_refl _) h
      rw [nStep_some h hgi]
      have hb := hG g (List.mem_of_getElem? hgi)
      have hi := (List.getElem?_eq_some_iff.1 hgi).1
      obtain ⟨h1, _, _, _, _, h2⟩ := hg
      refine ⟨h1, by show (0 : Int) ≤ ((i + 1 : Nat) : Int); omega, by show ((i + 1 : Nat) : Int) ≤ (c : Int); omega, ?_, ?_, h2.bump i⟩
      · show (0 : Int) ≤ ((if _ then _ else _ : Nat) : Int); omega
      · show ((if _ then _ else _ : Nat) : Int) < (n : Int); split <;> omega
  · cases h : nAhead G F.pc.toNat (nWire n F) with
    | none => rw [nStep_none h]; exact Nat.le_refl _
    | some i =>
      obtain ⟨_, g, hgi, _⟩ := nAhead_some _ (Nat.le_refl _) h
      rw [nStep_some h hgi]; exact Nat.le_refl _

/-- The numbers of the first cells. -/
def Cells (M : Mem) (C : List Nat) : Prop := ∀ i x, C[i]? = some x → (M.cell i).n = ((x : Nat) : Int)
theorem Cells.bump {M : Mem} {C : List Nat} {i x : Nat} (h : Cells M C) (hx : C[i]? = some x) : Cells (bump M i) (C.set i (x + 1)) := fun j y hy => by
  rw [bump_n]
  rw [List.getElem?_set] at hy
  by_cases e : j = i
  · subst e
    rw [if_pos rfl, if_pos (List.getElem?_eq_some_iff.1 hx).1] at hy
    cases hy
    rw [if_pos rfl, h j x hx]; omega
  · rw [if_neg (Ne.symm e)] at hy
    rw [if_neg e]; exact h j y hy
theorem tokL_len {G : List (Nat × Nat)} {C : List Nat} {v i : Nat} (hi : i ≤ C.length) : (tokL G C v i).length = C.length := by
  unfold tokL; rw [List.length_append, tok_len, List.length_take, List.length_drop]; omega

/-- A token's way's end. -/
theorem alone_net_end (n c : Nat) (G : List (Nat × Nat)) (Os C : List Nat) (v0 pl : Nat) (hc : G.length = c) (hC : C.length = c) (hO : Os[pl]? = some (Wr.tok G C v0).2) (hnd : Os.Nodup)
    (f p : Nat) (M : Mem) (F : Fr) (hpc : p = c) (hf : 1 ≤ f) (ha : nAhead G F.pc.toNat (nWire n F) = nAhead G p (nWire n F)) (hw : nWire n F = tokV G C v0 p) (hL : Cells M (tokL G C v0 p)) (hg : nGood n c M F) :
    ∃ M', alone (nStep n c G Os) f M F = (M', ⟨true, 0, 0, (pl : Int) + (n : Int) * (M.cell (c + pl)).n⟩, true) ∧ Cells M' (Wr.tok G C v0).1 ∧ (∀ j, (M'.cell (c + j)).n = if j = pl then (M.cell (c + j)).n + 1 else (M.cell (c + j)).n) ∧ M'.clock ≤ M.clock + f ∧ NOk M' := by
    obtain ⟨f, rfl⟩ : ∃ f', f = f' + 1 := ⟨f - 1, by omega⟩
    have eLc : tokL G C v0 c = (Wr.tok G C v0).1 := by unfold tokL; rw [List.take_of_length_le (by omega), List.take_of_length_le (by omega), List.drop_eq_nil_of_le (by omega), List.append_nil]
    have eVc : tokV G C v0 c = (Wr.tok G C v0).2 := by unfold tokV; rw [List.take_of_length_le (by omega), List.take_of_length_le (by omega)]
    rw [nAhead_end (p := p) (by omega)] at ha
    rw [hpc] at hw hL
    have hs := nStep_none (c := c) (Os := Os) (M := M) ha
    have hx : Os.idxOf (nWire n F) = pl := by
      rw [hw, eVc]
      obtain ⟨h1, h2⟩ := List.getElem?_eq_some_iff.1 hO
      rw [← h2]; exact hnd.idxOf_getElem _ h1
    rw [hx] at hs
    refine ⟨_, alone_done hs, ?_, fun j => ?_, by rw [bump_clock]; omega, hg.2.2.2.2.2.bump _⟩
    · intro i x hi
      rw [← eLc] at hi
      have hl := (List.getElem?_eq_some_iff.1 hi).1
      rw [tokL_len (by omega)] at hl
      rw [bump_n, if_neg (by omega)]
      exact hL i x hi
    · rw [bump_n]
      by_cases e : j = pl
      · subst e; rw [if_pos rfl, if_pos rfl]
      · rw [if_neg (by omega), if_neg e]
/-- The rest of a token's way, one by one. -/
theorem alone_net (n c : Nat) (G : List (Nat × Nat)) (Os C : List Nat) (v0 pl : Nat) (hc : G.length = c) (hC : C.length = c) (hG : ∀ g ∈ G, g.1 < n ∧ g.2 < n) (_hn : 1 ≤ n) (_ho : Os.length = n) (hO : Os[pl]? = some (Wr.tok G C v0).2) (hnd : Os.Nodup) :
    ∀ (k f p : Nat) (M : Mem) (F : Fr), c - p ≤ k → k + 1 ≤ f → p ≤ c → nAhead G F.pc.toNat (nWire n F) = nAhead G p (nWire n F) → nWire n F = tokV G C v0 p → Cells M (tokL G C v0 p) → nGood n c M F →
      ∃ M', alone (nStep n c G Os) f M F = (M', ⟨true, 0, 0, (pl : Int) + (n : Int) * (M.cell (c + pl)).n⟩, true) ∧ Cells M' (Wr.tok G C v0).1 ∧ (∀ j, (M'.cell (c + j)).n = if j = pl then (M.cell (c + j)).n + 1 else (M.cell (c + j)).n) ∧ M'.clock ≤ M.clock + f ∧ NOk M' := by
  intro k
  induction k with
  | zero => exact fun f p M F hk hf hp ha hw hL hg => alone_net_end n c G Os C v0 pl hc hC hO hnd f p M F (by omega) hf ha hw hL hg
  | succ k ih =>
    intro f p M F hk hf hp ha hw hL hg
    by_cases hpc : p = c
    · exact alone_net_end n c G Os C v0 pl hc hC hO hnd f p M F hpc (by omega) ha hw hL hg
    · obtain ⟨f, rfl⟩ : ∃ f', f = f' + 1 := ⟨f - 1, by omega⟩
      have hpl : p < G.length := by omega
      have hgp : G[p]? = some G[p] := List.getElem?_eq_getElem hpl
      obtain ⟨x, hx⟩ : ∃ x, C[p]? = some x := ⟨_, List.getElem?_eq_getElem (by omega)⟩
      by_cases hh : G[p].1 = tokV G C v0 p ∨ G[p].2 = tokV G C v0 p
      · have th := tok_hit (v := v0) (hc.trans hC.symm) hgp hx hh
        rw [← hw] at hh
        rw [nAhead_hit hgp hh] at ha
        have hs := nStep_some (c := c) (Os := Os) (M := M) ha hgp
        have hn1 : (M.cell p).n = (x : Int) := hL p x (tokL_get hx)
        have hgn := (nFine (n := n) Os hc hG).on M F hg (by rw [hs])
        rw [hs] at hgn
        obtain ⟨M', e1, e2, e3, e4, e5⟩ := ih f (p + 1) _ _ (by omega) (by omega) (by omega) (by
            dsimp only
            rw [show ((p + 1 : Nat) : Int).toNat = p + 1 by omega]) (by
            show Int.toNat (if ((p + 1 : Nat) : Int) = 0 then _ else _) = _
            rw [if_neg (by omega), th.2, hn1]
            dsimp only
            by_cases e : x % 2 = 0
            · rw [if_pos (by omega), if_pos e]; rfl
            · rw [if_neg (by omega), if_neg e]; rfl) (by rw [← th.1]; exact hL.bump (tokL_get hx)) hgn
        have hcp : ∀ j, ((bump M p).cell (c + j)).n = (M.cell (c + j)).n := fun j => by rw [bump_n, if_neg (by omega)]
        refine ⟨M', ?_, e2, fun j => by rw [e3, hcp], by rw [bump_clock] at e4; omega, e5⟩
        rw [alone_on hs, e1, hcp]
      · have tm := tok_miss (v := v0) (hc.trans hC.symm) hgp hx hh
        rw [← hw] at hh
        obtain ⟨M', e1, e2, e3, e4, e5⟩ := ih (f + 1) (p + 1) M F (by omega) (by omega) (by omega) (by rw [ha, nAhead_miss hgp hh]) (by rw [tm.2]; exact hw) (by rw [← tm.1]; exact hL) hg
        exact ⟨M', e1, e2, e3, e4, e5⟩

/-- What holds between two tokens. -/
def NI (n c : Nat) (G : List (Nat × Nat)) (i : Nat) (M : Mem) : Prop :=
  ∃ s : Nat → Nat, Cells M (Wr.cnts G s) ∧ (∀ j, j < n → (M.cell (c + j)).n = (Wr.E n i j : Int)) ∧ Wr.sum s (List.range n) = i ∧ NOk M ∧ M.clock ≤ 100 * i
theorem sum_nil : ∀ l : List Nat, Wr.sum (fun _ => 0) l = 0
  | [] => rfl
  | a :: l => by show 0 + _ = 0; rw [sum_nil l]
theorem NI.start (n c : Nat) (G : List (Nat × Nat)) : NI n c G 0 Mem.empty := by
  refine ⟨fun _ => 0, fun i x hx => ?_, fun j hj => ?_, sum_nil _, NOk.empty, Nat.le_refl _⟩
  · rw [cnts_zero G _ (fun _ => rfl), List.getElem?_replicate] at hx
    split at hx
    · cases hx; rfl
    · cases hx
  · show (0 : Int) = _
    unfold Wr.E
    rw [Nat.div_eq_of_lt (by omega)]; rfl
theorem E_mod {n i : Nat} (hn : 0 < n) : Wr.E n i (i % n) = i / n := by
  have hr : i % n < n := Nat.mod_lt _ hn
  unfold Wr.E
  rw [show i + (n - 1 - i % n) = (n - 1) + n * (i / n) by have := Nat.div_add_mod i n; omega, Nat.add_mul_div_left _ _ hn, Nat.div_eq_of_lt (by omega)]
  omega
/-- A token alone: it gets the next number. -/
theorem NI.next {n c i : Nat} {G : List (Nat × Nat)} {Os : List Nat} {M : Mem} (f : Nat) (d d1 : Int) (h : NI n c G i M) (hc : G.length = c) (hc80 : c + 1 ≤ f) (hf : f ≤ 100) (hn : 1 ≤ n) (ho : Os.length = n) (hnd : Os.Nodup) (hG : ∀ g ∈ G, g.1 ≠ g.2 ∧ g.1 < n ∧ g.2 < n)
    (hev : ∀ s, Wr.Ev (Wr.run G s) n Os (Wr.sum s (List.range n))) : ∃ M', alone (nStep n c G Os) f M (Fr.of 7 0 0 d d1) = (M', ⟨true, 0, 0, (i : Int)⟩, true) ∧ NI n c G (i + 1) M' := by
  obtain ⟨s, hC, hE, hs, hok, hck⟩ := h
  have hr := into_rng (d := d) (n := (n : Int)) (by omega)
  obtain ⟨v, hv⟩ : ∃ v : Nat, into d (n : Int) = (v : Int) := ⟨(into d (n : Int)).toNat, by omega⟩
  have hvn : v < n := by omega
  obtain ⟨p1, p2, p3⟩ := tok_place hev (fun g hg => (hG g hg).1) hs hvn
  have hw : nWire n (Fr.of 7 0 0 d d1) = v := by
    show (if (0 : Int) = 0 then into d (n : Int) else 0).toNat = v
    rw [if_pos rfl, hv]; rfl
  obtain ⟨M', e1, e2, e3, e4, e5⟩ := alone_net n c G Os (Wr.cnts G s) v (i % n) hc ((Wr.cnts_length G s).trans hc) (fun g hg => (hG g hg).2) hn ho p1 hnd c f 0 M (Fr.of 7 0 0 d d1) (by omega) (by omega) (Nat.zero_le _) rfl
    (by rw [hw]; simp [tokV, Wr.tok]) (by simpa [tokL, Wr.tok] using hC) ⟨rfl, Int.le_refl _, by show (0 : Int) ≤ _; omega, Int.le_refl _, by show (0 : Int) < _; omega, hok⟩
  have hm : i % n < n := Nat.mod_lt _ hn
  refine ⟨M', ?_, Wr.inc s v, by rw [← p2]; exact e2, fun j hj => ?_, p3, e5, by omega⟩
  · rw [e1, hE _ hm, E_mod hn]
    have := Nat.div_add_mod i n
    have h2 : ((i % n : Nat) : Int) + (n : Int) * ((i / n : Nat) : Int) = (i : Int) := by
      rw [← Int.natCast_mul, ← Int.natCast_add]; congr 1; omega
    rw [h2]
  · rw [e3, hE _ hj, Wr.E_next n i j hj]
    by_cases e : j = i % n
    · rw [if_pos e, if_pos e]; omega
    · rw [if_neg e, if_neg e]
end Go.Proofs.YtbcmilfajeanbaaGreat
