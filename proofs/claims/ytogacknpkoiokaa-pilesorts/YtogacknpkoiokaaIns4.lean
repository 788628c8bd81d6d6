/-
  The document's list in order is the program's: insertion, one behind the other, and any other sort of the same items.
-/
import Derived.Test.YtogacknpkoiokaaSort4
namespace Go.Proofs.Ytogacknpkoiokaa
open Go.RowKit Go.Sort

def ins (x : KI) : List KI → List KI
  | [] => [x]
  | y :: L => if x.lt y = true then x :: y :: L else y :: ins x L
def InOrder (L : List KI) : Prop := L.Pairwise fun a b => b.lt a = false

theorem ins_no {x y : KI} {L : List KI} (h : x.lt y = false) : ins x (y :: L) = y :: ins x L := by rw [ins, if_neg (by rw [h]; simp)]
theorem ins_yes {x y : KI} {L : List KI} (h : x.lt y = true) : ins x (y :: L) = x :: y :: L := by rw [ins, if_pos h]
theorem wfold_done (x : KI) : ∀ (L o : List KI), L.foldl (wstep x) (o, true) = (o ++ L, true)
  | [], o => by simp
  | y :: L, o => by
    rw [List.foldl_cons, show wstep x (o, true) y = (o ++ [y], true) by unfold wstep; rw [if_neg (by simp)], wfold_done x L]
    simp
theorem wfold_ins (x : KI) : ∀ (L o : List KI), (if (L.foldl (wstep x) (o, false)).2 = true then (L.foldl (wstep x) (o, false)).1 else (L.foldl (wstep x) (o, false)).1 ++ [x]) = o ++ ins x L
  | [], o => rfl
  | y :: L, o => by
    rw [List.foldl_cons]
    cases hc : x.lt y
    · rw [show wstep x (o, false) y = (o ++ [y], false) by unfold wstep; rw [if_neg (by rw [hc]; simp)], wfold_ins x L]
      rw [ins_no hc]
      simp
    · rw [show wstep x (o, false) y = (o ++ [x] ++ [y], true) by unfold wstep; rw [if_pos ⟨rfl, hc⟩], wfold_done]
      rw [ins_yes hc]
      simp
theorem wth_ins (x : KI) (L : List KI) : wth x L = ins x L := by
  have := wfold_ins x L []
  rw [List.nil_append] at this
  exact this
theorem ins_perm (x : KI) : ∀ L, (ins x L).Perm (x :: L)
  | [] => List.Perm.refl _
  | y :: L => by
    unfold ins
    split
    · exact List.Perm.refl _
    · exact ((ins_perm x L).cons y).trans (List.Perm.swap x y L)
theorem ins_order (x : KI) : ∀ L, InOrder L → InOrder (ins x L)
  | [], _ => List.pairwise_singleton _ _
  | y :: L, h => by
    obtain ⟨h1, h2⟩ := List.pairwise_cons.1 h
    unfold ins
    split
    case isTrue e =>
      refine List.pairwise_cons.2 ⟨fun z hz => ?_, h⟩
      rcases List.mem_cons.1 hz with rfl | hz
      · exact Hp.asym KI.swo e
      · exact KI.swo.ntrans _ _ _ (h1 z hz) (Hp.asym KI.swo e)
    case isFalse e =>
      refine List.pairwise_cons.2 ⟨fun z hz => ?_, ins_order x L h2⟩
      rcases List.mem_cons.1 ((ins_perm x L).mem_iff.1 hz) with rfl | hz
      · exact Bool.not_eq_true _ ▸ e
      · exact h1 z hz
/-- One order alone. -/
theorem order_eq : ∀ (L M : List KI), L.Perm M → InOrder L → InOrder M → L = M
  | [], M, hp, _, _ => by rw [hp.nil_eq]
  | x :: L, [], hp, _, _ => by have := hp.length_eq; simp at this
  | x :: L, y :: M, hp, hL, hM => by
    obtain ⟨a1, a2⟩ := List.pairwise_cons.1 hL
    obtain ⟨b1, b2⟩ := List.pairwise_cons.1 hM
    have hxy : x = y := by
      rcases List.mem_cons.1 (hp.mem_iff.1 List.mem_cons_self) with e | e
      · exact e
      · rcases List.mem_cons.1 (hp.mem_iff.2 (List.mem_cons_self (a := y) (l := M))) with e' | e'
        · exact e'.symm
        · exact KI.total x y (b1 x e) (a1 y e')
    subst hxy
    rw [order_eq L M (List.Perm.cons_inv hp) a2 b2]
theorem srt_order (L : List KI) : InOrder (srt L) := by
  have := List.pairwise_mergeSort (le := fun x y => !(KI.lt y x)) (fun a b c h1 h2 => by
    simp only [Bool.not_eq_true'] at *
    exact KI.swo.ntrans _ _ _ h2 h1) (fun a b => by
    cases h : KI.lt b a
    · simp
    · simp [Hp.asym KI.swo h]) L
  exact this.imp (fun h => by simpa using h)
theorem srt_perm (L : List KI) : (srt L).Perm L := List.mergeSort_perm _ _
theorem rsrt_order (P V : Nat → Int) : ∀ n, InOrder (rsrt P V n)
  | 0 => List.Pairwise.nil
  | n + 1 => by rw [rsrt_succ, wth_ins]; exact ins_order _ _ (rsrt_order P V n)
theorem rsrt_perm (P V : Nat → Int) : ∀ n, (rsrt P V n).Perm ((List.range n).map (kiOf P V))
  | 0 => List.Perm.refl _
  | n + 1 => by
    rw [rsrt_succ, wth_ins, List.range_succ, List.map_append]
    refine (ins_perm _ _).trans (((rsrt_perm P V n).cons _).trans ?_)
    exact (List.perm_append_singleton _ _).symm
/-- Whatever sorts the same items gives the document's list. -/
theorem srt_rsrt (P V : Nat → Int) (n : Nat) (L : List KI) (h : L.Perm ((List.range n).map (kiOf P V))) : srt L = rsrt P V n :=
  order_eq _ _ ((srt_perm L).trans (h.trans (rsrt_perm P V n).symm)) (srt_order L) (rsrt_order P V n)
theorem canArr_list (P V : Nat → Int) (n : Nat) : (canArr (fun i => nf (P i)) V n n).toList = (List.range n).map (kiOf P V) := by
  refine List.ext_getElem (by simp [canArr]) ?_
  intro i h1 h2
  have hi : i < n := by simpa using h2
  simp [canArr, hi, kiOf]
end Go.Proofs.Ytogacknpkoiokaa
