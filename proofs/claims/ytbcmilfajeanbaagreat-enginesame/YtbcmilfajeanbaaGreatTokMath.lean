/-
  Tokens in a network, one by one: the plain mathematics.
-/
import Derived.Test.YtbcmilfajeanbaaGreatRegionAll
namespace Go.Proofs.YtbcmilfajeanbaaGreat

theorem tok_len : ∀ (gs : List (Nat × Nat)) (cs : List Nat) (v : Nat), (Wr.tok gs cs v).1.length = cs.length
  | [], _, _ => rfl
  | _ :: _, [], _ => rfl
  | g :: gs, c :: cs, v => by
    unfold Wr.tok
    split
    · show (_ :: (Wr.tok gs cs _).1).length = _; rw [List.length_cons, tok_len gs cs]; rfl
    · show (_ :: (Wr.tok gs cs _).1).length = _; rw [List.length_cons, tok_len gs cs]; rfl
theorem tok_snoc : ∀ (gs : List (Nat × Nat)) (cs : List Nat) (v : Nat) (g : Nat × Nat) (c : Nat), gs.length = cs.length →
    Wr.tok (gs ++ [g]) (cs ++ [c]) v = if g.1 = (Wr.tok gs cs v).2 ∨ g.2 = (Wr.tok gs cs v).2 then ((Wr.tok gs cs v).1 ++ [c + 1], if c % 2 = 0 then g.1 else g.2) else ((Wr.tok gs cs v).1 ++ [c], (Wr.tok gs cs v).2)
  | [], [], v, g, c, _ => by
    show Wr.tok [g] [c] v = _
    unfold Wr.tok
    split <;> rfl
  | [], _ :: _, _, _, _, h => by simp at h
  | _ :: _, [], _, _, _, h => by simp at h
  | x :: gs, y :: cs, v, g, c, h => by
    have hl : gs.length = cs.length := by simpa using h
    have ih := fun v => tok_snoc gs cs v g c hl
    show Wr.tok (x :: (gs ++ [g])) (y :: (cs ++ [c])) v = _
    by_cases hx : x.1 = v ∨ x.2 = v
    · have e1 : Wr.tok (x :: (gs ++ [g])) (y :: (cs ++ [c])) v = ((y + 1) :: (Wr.tok (gs ++ [g]) (cs ++ [c]) (if y % 2 = 0 then x.1 else x.2)).1, (Wr.tok (gs ++ [g]) (cs ++ [c]) (if y % 2 = 0 then x.1 else x.2)).2) := by rw [Wr.tok, if_pos hx]
      have e2 : Wr.tok (x :: gs) (y :: cs) v = ((y + 1) :: (Wr.tok gs cs (if y % 2 = 0 then x.1 else x.2)).1, (Wr.tok gs cs (if y % 2 = 0 then x.1 else x.2)).2) := by rw [Wr.tok, if_pos hx]
      rw [e1, e2, ih]
      dsimp only
      generalize Wr.tok gs cs (if y % 2 = 0 then x.1 else x.2) = T
      split <;> rfl
    · have e1 : Wr.tok (x :: (gs ++ [g])) (y :: (cs ++ [c])) v = (y :: (Wr.tok (gs ++ [g]) (cs ++ [c]) v).1, (Wr.tok (gs ++ [g]) (cs ++ [c]) v).2) := by rw [Wr.tok, if_neg hx]
      have e2 : Wr.tok (x :: gs) (y :: cs) v = (y :: (Wr.tok gs cs v).1, (Wr.tok gs cs v).2) := by rw [Wr.tok, if_neg hx]
      rw [e1, e2, ih]
      dsimp only
      generalize Wr.tok gs cs v = T
      split <;> rfl
/-- What has been passed, on the way. -/
def tokL (G : List (Nat × Nat)) (C : List Nat) (v i : Nat) : List Nat := (Wr.tok (G.take i) (C.take i) v).1 ++ C.drop i
def tokV (G : List (Nat × Nat)) (C : List Nat) (v i : Nat) : Nat := (Wr.tok (G.take i) (C.take i) v).2
theorem tokL_get {G : List (Nat × Nat)} {C : List Nat} {v i c : Nat} (hC : C[i]? = some c) : (tokL G C v i)[i]? = some c := by
  have hi := (List.getElem?_eq_some_iff.1 hC).1
  have hl : (Wr.tok (G.take i) (C.take i) v).1.length = i := by rw [tok_len, List.length_take]; omega
  unfold tokL
  rw [List.getElem?_append_right (by omega), hl, List.getElem?_drop, Nat.sub_self]; exact hC
theorem tok_next {G : List (Nat × Nat)} {C : List Nat} {v i c : Nat} {g : Nat × Nat} (hl : G.length = C.length) (hG : G[i]? = some g) (hC : C[i]? = some c) :
    Wr.tok (G.take (i + 1)) (C.take (i + 1)) v = if g.1 = tokV G C v i ∨ g.2 = tokV G C v i then ((Wr.tok (G.take i) (C.take i) v).1 ++ [c + 1], if c % 2 = 0 then g.1 else g.2) else ((Wr.tok (G.take i) (C.take i) v).1 ++ [c], tokV G C v i) := by
  rw [List.take_add_one, List.take_add_one, hG, hC]
  exact tok_snoc _ _ v g c (by rw [List.length_take, List.length_take, hl])
theorem tok_hit {G : List (Nat × Nat)} {C : List Nat} {v i c : Nat} {g : Nat × Nat} (hl : G.length = C.length) (hG : G[i]? = some g) (hC : C[i]? = some c) (hh : g.1 = tokV G C v i ∨ g.2 = tokV G C v i) :
    (tokL G C v i).set i (c + 1) = tokL G C v (i + 1) ∧ tokV G C v (i + 1) = if c % 2 = 0 then g.1 else g.2 := by
  have hn := tok_next (v := v) hl hG hC
  rw [if_pos hh] at hn
  have hi := (List.getElem?_eq_some_iff.1 hC).1
  have hlen : (Wr.tok (G.take i) (C.take i) v).1.length = i := by rw [tok_len, List.length_take]; omega
  refine ⟨?_, by unfold tokV; rw [hn]⟩
  unfold tokL
  rw [hn]
  dsimp only
  rw [List.set_append_right _ _ (by omega), hlen, Nat.sub_self, List.append_assoc]
  congr 1
  rw [List.drop_eq_getElem_cons hi]
  rfl
theorem tok_miss {G : List (Nat × Nat)} {C : List Nat} {v i c : Nat} {g : Nat × Nat} (hl : G.length = C.length) (hG : G[i]? = some g) (hC : C[i]? = some c) (hh : ¬ (g.1 = tokV G C v i ∨ g.2 = tokV G C v i)) :
    tokL G C v i = tokL G C v (i + 1) ∧ tokV G C v (i + 1) = tokV G C v i := by
  have hn := tok_next (v := v) hl hG hC
  rw [if_neg hh] at hn
  obtain ⟨hi, hci⟩ := List.getElem?_eq_some_iff.1 hC
  refine ⟨?_, by show (Wr.tok (G.take (i + 1)) (C.take (i + 1)) v).2 = _; rw [hn]⟩
  unfold tokL
  rw [hn]
  dsimp only
  rw [List.append_assoc]
  congr 1
  rw [List.drop_eq_getElem_cons hi, hci]
  rfl
theorem sum_inc (s : Nat → Nat) (v : Nat) : ∀ (l : List Nat), l.Nodup → Wr.sum (Wr.inc s v) l = Wr.sum s l + (if v ∈ l then 1 else 0)
  | [], _ => rfl
  | a :: l, h => by
    have ih := sum_inc s v l (List.nodup_cons.1 h).2
    have hn := (List.nodup_cons.1 h).1
    show Wr.inc s v a + Wr.sum (Wr.inc s v) l = s a + Wr.sum s l + _
    rw [ih]
    by_cases e : a = v
    · subst e
      rw [Wr.inc_at, if_neg hn, if_pos List.mem_cons_self]; omega
    · rw [Wr.inc_o s v a e]
      by_cases hm : v ∈ l
      · rw [if_pos hm, if_pos (List.mem_cons_of_mem _ hm)]; omega
      · rw [if_neg hm, if_neg (fun h => by rcases List.mem_cons.1 h with h | h; exact e h.symm; exact hm h)]; omega
theorem tok_place {G : List (Nat × Nat)} {O : List Nat} {n i v : Nat} {s : Nat → Nat} (hev : ∀ s, Wr.Ev (Wr.run G s) n O (Wr.sum s (List.range n))) (hne : ∀ g ∈ G, g.1 ≠ g.2) (hs : Wr.sum s (List.range n) = i) (hv : v < n) :
    O[i % n]? = some (Wr.tok G (Wr.cnts G s) v).2 ∧ (Wr.tok G (Wr.cnts G s) v).1 = Wr.cnts G (Wr.inc s v) ∧ Wr.sum (Wr.inc s v) (List.range n) = i + 1 := by
  obtain ⟨h1, h2⟩ := Wr.tok_run G s v hne
  have h3 : Wr.sum (Wr.inc s v) (List.range n) = i + 1 := by rw [sum_inc s v _ List.nodup_range, if_pos (List.mem_range.2 hv), hs]
  have hp : i % n < n := Nat.mod_lt _ (by omega)
  have e1 := hev s
  have e2 := hev (Wr.inc s v)
  rw [hs] at e1
  rw [h3] at e2
  obtain ⟨a, ha⟩ : ∃ a, O[i % n]? = some a := ⟨_, List.getElem?_eq_getElem (by rw [e1.1]; exact hp)⟩
  have q1 := e1.2 _ _ ha
  have q2 := e2.2 _ _ ha
  rw [Wr.E_next n i _ hp, if_pos rfl, h2] at q2
  refine ⟨?_, h1, h3⟩
  rw [ha]
  congr 1
  by_cases e : a = (Wr.tok G (Wr.cnts G s) v).2
  · exact e
  · rw [Wr.inc_o _ _ _ e] at q2; omega
theorem cnts_zero : ∀ (gs : List (Nat × Nat)) (s : Nat → Nat), (∀ v, s v = 0) → Wr.cnts gs s = List.replicate gs.length 0
  | [], _, _ => rfl
  | g :: gs, s, h => by
    have hu : ∀ v, Wr.upd s g v = 0 := fun v => by have := Wr.run_le [g] s 0 (fun v => by rw [h v]; exact Nat.le_refl _) v; exact Nat.le_zero.1 this
    show (s g.1 + s g.2) :: Wr.cnts gs (Wr.upd s g) = _
    rw [h, h, cnts_zero gs _ hu]; rfl
end Go.Proofs.YtbcmilfajeanbaaGreat
