/-
  Layer 4's work: pile.Sorted: the canonical items in order, by the library's slices.SortFunc.
  The document's list in order: one more.
  Items in the making, as an argument; as the program's, as the document's.
  Are items the document's: contract.
  The document's list in order: of any items; and whether items are the document's.
  The document's list in order is the program's: insertion, one behind the other, and any other sort of the same items.
  Layer 4's work: Pile.All; rows of items read as an argument.
-/
import Derived.Test.YtbcmilfajeanbaaGreatSortIt
import Derived.Test.YtbcmilfajeanbaaGreatPileA
import Derived.Test.YtbcmilfajeanbaaGreatFlat4All
namespace Go.Proofs.YtbcmilfajeanbaaGreat
open Go.RowKit Go.Sort Go.Lib

def encK (x : KI) : List Value := [.float .f64 x.b, .int .i64 x.v]
def cfK (x y : KI) : Int := cmpN x.b x.v y.b y.v
theorem ltK : ltOf cfK = KI.lt := rfl

theorem closure_any (x y : KI) (W : World) : Calls Tryz.prog 94 #[.agg #[.float .f64 x.b, .int .i64 x.v], .agg #[.float .f64 y.b, .int .i64 y.v]] W fun e w' => e = .returned (.int .i64 (cfK x y)) ∧ ∃ q os', w' = grow (W.drewN q) os' := by
  have hC := fun w => icmp_any x.b y.b x.v y.v w x.ok.1 y.ok.1
  have hcf : cfK x y = cmpN x.b x.v y.b y.v := rfl
  rw [hcf]
  clear hcf
  generalize cmpN x.b x.v y.b y.v = c at *
  go_enter Tryz.func94, Tryz.ntmps94
  go_wp2_with (go_at_call 11; refine (hC _).mono ?_; rintro e w' ⟨rfl, hw⟩; replace hw := hw.symm; subst hw)
  go_ret
  exact ⟨rfl, 0, _, by rw [alloc_eq_grow, alloc_eq_grow, alloc_eq_grow, alloc_eq_grow, grow_grow, grow_grow, grow_grow]; rfl⟩

theorem cmpLays (blk off size : Nat) (w : World) : CmpLays Tryz.prog 94 #[] encK 2 cfK blk off size w :=
  fun _ _ _ _ x y => closure_any x y _

theorem flat0 (d : Array KI) (i : Nat) (h : i < d.size) : (flatK encK 2 d)[i * 2]! = .float .f64 d[i]!.b := by
  rw [get_flatK _ _ _ _ (by omega), Nat.mul_div_cancel _ (by decide), Nat.mul_mod_left]; rfl
theorem flat1 (d : Array KI) (i : Nat) (h : i < d.size) : (flatK encK 2 d)[i * 2 + 1]! = .int .i64 d[i]!.v := by
  rw [get_flatK _ _ _ _ (by omega), show (i * 2 + 1) / 2 = i by omega, show (i * 2 + 1) % 2 = 1 by omega]; rfl
theorem Row.holdsK {w : World} {g cap : Nat} {d : Array KI} (h : Row w g cap d) : HoldsK encK 2 w g 0 d := by
  intro j hj
  rw [size_flatK] at hj
  have hle := h.le
  rw [Nat.zero_add]
  refine ⟨?_, (h.there j (by omega)).2⟩
  show _ = some ((flatK encK 2 d)[j]!)
  rcases Nat.mod_two_eq_zero_or_one j with e | e
  · obtain ⟨i, rfl⟩ : ∃ i, j = i * 2 := ⟨j / 2, by omega⟩
    rw [flat0 d i (by omega)]; exact h.flt i (by omega)
  · obtain ⟨i, rfl⟩ : ∃ i, j = i * 2 + 1 := ⟨j / 2, by omega⟩
    rw [flat1 d i (by omega)]; exact h.val i (by omega)

theorem but_sort (w : World) (g n : Nat) (d : Array KI) (os : Array Obj) : But (fun k => k = g) w (sortWorldK encK 2 w g 0 n d os) := by
  refine ⟨rfl, rfl, rfl, ?_, ?_⟩
  · unfold sortWorldK putRowK
    rw [size_grow, size_putRow]
    exact Nat.le_add_right _ _
  · intro k hk hn
    unfold sortWorldK putRowK
    rw [heap_grow_old _ _ (by rw [size_putRow]; exact hk)]
    unfold putRow mapBlock
    show (w.heap.modify g _)[k]? = _
    rw [Array.getElem?_modify, if_neg (fun e => hn e.symm)]
theorem row_sort {w : World} {g n m : Nat} {d d' : Array KI} (h : Row w g n d) (hn : d.size = n) (hs : d'.size = d.size) (os : Array Obj) : Row (sortWorldK encK 2 w g 0 m d' os) g n d' := by
  have hb := but_sort w g m d' os
  have hl : g < (putRow id (Sort.ahead w m) g 0 (flatK encK 2 d')).heap.size := by rw [size_putRow]; exact h.lt
  have hH0 : Holds id (Sort.ahead w m) g 0 (flatK encK 2 d) := h.holdsK
  have hH : Holds id (sortWorldK encK 2 w g 0 m d' os) g 0 (flatK encK 2 d') :=
    holds_grow id _ os g 0 _ hl (holds_putRow id (Sort.ahead w m) g 0 _ _ hH0 (by rw [size_flatK, size_flatK, hs]))
  refine ⟨Nat.lt_of_lt_of_le h.lt hb.size, by rw [hs]; exact h.le, by rw [hs]; exact h.max, h.cmax, ?_, ?_, ?_⟩
  · intro i hi
    have := (hH (i * 2) (by rw [size_flatK]; omega)).1
    rw [Nat.zero_add, flat0 d' i hi] at this
    exact this
  · intro i hi
    have := (hH (i * 2 + 1) (by rw [size_flatK]; omega)).1
    rw [Nat.zero_add, flat1 d' i hi] at this
    exact this
  · intro j hj
    have := hH j (by rw [size_flatK, hs, hn]; exact hj)
    rw [Nat.zero_add] at this
    exact ⟨by rw [this.1]; rfl, this.2⟩

/-- The canonical items in order. -/
def srt (L : List KI) : List KI := L.mergeSort fun x y => !(KI.lt y x)

theorem sorted_any (a : Option Addr) (n cap : Nat) (P : Nat → Nat) (V : Nat → Int) (w : World) (h : Items w a n P V) (hn : n ≤ 1099511627776) :
    Calls Tryz.prog 81 #[.slice a n cap] w fun e w' => ∃ g, e = .returned (.slice (some ⟨g, 0, none⟩) n n) ∧ w.heap.size ≤ g ∧ Row w' g n (srt (canArr P V n n).toList).toArray ∧ Below w.heap.size w w' := by
  have hcan := canonical_any a n cap P V w h hn
  have eg : ∀ args w, (callFunc 94 args).run Tryz.prog w = .ok (.enter 94 args) w := enters_of Tryz.func94 (by kernel_rfl) rfl
  have hsort : ∀ w1 g, w.heap.size ≤ g → Row w1 g n (canArr P V n n) → Below w.heap.size w w1 → Calls Tryz.prog 93 #[.slice (some ⟨g, 0, none⟩) n n, .func (.func 94) #[] #[]] w1 fun e w' => e = .returned (.tuple #[]) ∧ Row w' g n (srt (canArr P V n n).toList).toArray ∧ Below w.heap.size w w' := by
    intro w1 g hg hR hB
    have hz := canArr_size P V n n
    have := AnyQ.slices_SortFunc_total Tryz.sortIt 2 Tryz.isAgg40 Tryz.sizeOf40 encK (fun _ => rfl) (fun x v hv => by simp [encK] at hv; rcases hv with rfl | rfl <;> rfl) cfK (by rw [ltK]; exact KI.swo) 94 #[] g 0 n (canArr P V n n) w1 eg (cmpLays g 0 _ w1) hR.holdsK hR.lt (by rw [hz]; omega) (by rw [ltK]; exact KI.total)
    rw [hz] at this
    refine Calls.mono this ?_
    rintro e w' ⟨rfl, m, os, rfl⟩
    rw [ltK]
    refine ⟨rfl, row_sort hR hz (by simp [hz, List.length_mergeSort]) os, hB.trans ((but_sort w1 g m _ os).below hB.size (fun k e => by omega))⟩
  clear h hn eg
  go_enter Tryz.func81, Tryz.ntmps81
  go_wp2_with fail
  refine hcan.mono ?_
  rintro e w1 ⟨g, rfl, hg, hR, hB⟩
  go_wp2_with fail
  refine (hsort _ g hg hR hB).mono ?_
  rintro e w2 ⟨rfl, hR2, hB2⟩
  clear hR hB hcan hsort
  go_wp2
  go_ret
  exact ⟨g, rfl, hg, hR2, hB2⟩
end Go.Proofs.YtbcmilfajeanbaaGreat

namespace Go.Proofs.YtbcmilfajeanbaaGreat
open Go.RowKit Go.Sort

/-- One step of the document's insertion, and all of them. -/
def wstep (x : KI) (r : List KI × Bool) (y : KI) : List KI × Bool := if r.2 = false ∧ x.lt y = true then (r.1 ++ [x] ++ [y], true) else (r.1 ++ [y], r.2)
def wst (x : KI) (L : List KI) : List KI × Bool := L.foldl (wstep x) ([], false)
theorem wst_snoc (x : KI) (L : List KI) (y : KI) : wst x (L ++ [y]) = wstep x (wst x L) y := by simp [wst]
def wth (x : KI) (L : List KI) : List KI := if (wst x L).2 = true then (wst x L).1 else (wst x L).1 ++ [x]
theorem wstep_length (x : KI) (r : List KI × Bool) (y : KI) (n : Nat) (h : r.1.length = n + r.2.toNat) : (wstep x r y).1.length = (n + 1) + (wstep x r y).2.toNat := by
  unfold wstep
  split
  case isTrue e => rw [e.1] at h; simp at h; simp [h]
  case isFalse e => simp [h]; omega
theorem wfold_length (x : KI) : ∀ (M : List KI) (r : List KI × Bool) (n : Nat), r.1.length = n + r.2.toNat → (M.foldl (wstep x) r).1.length = n + M.length + (M.foldl (wstep x) r).2.toNat
  | [], r, n, h => h
  | y :: M, r, n, h => by
    have := wfold_length x M _ _ (wstep_length x r y n h)
    rw [List.foldl_cons, this, List.length_cons]; omega
theorem wst_length (x : KI) (L : List KI) : (wst x L).1.length = L.length + (wst x L).2.toNat := by
  have := wfold_length x L ([], false) 0 rfl
  rw [Nat.zero_add] at this
  exact this
theorem wth_length (x : KI) (L : List KI) : (wth x L).length = L.length + 1 := by
  have := wst_length x L
  unfold wth
  split
  case isTrue e => rw [e] at this; exact this
  case isFalse e => rw [Bool.not_eq_true] at e; rw [e] at this; simp [this]

end Go.Proofs.YtbcmilfajeanbaaGreat

namespace Go.Proofs.YtbcmilfajeanbaaGreat
open Go.RowKit Go.Sort

/-- Items in the making, as an argument. -/
def Raws (w : World) (a : Option Addr) (n : Nat) (K M : Nat → Int) : Prop :=
  ∀ i, i < n → ∃ g off, a = some ⟨g, off, none⟩ ∧ g < w.heap.size ∧ w.cell? ⟨g, off + i * 2, none⟩ = some (.int .u64 (K i)) ∧ w.cell? ⟨g, off + i * 2 + 1, none⟩ = some (.int .i64 (M i)) ∧ 0 ≤ K i ∧ K i < 18446744073709551616
theorem Raws.below {w w' : World} {a : Option Addr} {n : Nat} {K M : Nat → Int} (h : Raws w a n K M) (hb : Below w.heap.size w w') : Raws w' a n K M := fun i hi => by
  obtain ⟨g, off, h1, h2, h3, h4, h5⟩ := h i hi
  exact ⟨g, off, h1, Nat.lt_of_lt_of_le h2 hb.size, by rw [hb.cell (p := ⟨g, off + i * 2, none⟩) h2]; exact h3, by rw [hb.cell (p := ⟨g, off + i * 2 + 1, none⟩) h2]; exact h4, h5⟩
theorem Raws.but {S : Nat → Prop} {w w' : World} {a : Option Addr} {n : Nat} {K M : Nat → Int} (h : Raws w a n K M) (hb : But S w w') (hS : ∀ k, inB a k → ¬ S k) : Raws w' a n K M := fun i hi => by
  obtain ⟨g, off, h1, h2, h3, h4, h5⟩ := h i hi
  have hn : ¬ S g := hS g ⟨_, h1, rfl⟩
  exact ⟨g, off, h1, Nat.lt_of_lt_of_le h2 hb.size, by rw [hb.cell (p := ⟨g, off + i * 2, none⟩) h2 hn]; exact h3, by rw [hb.cell (p := ⟨g, off + i * 2 + 1, none⟩) h2 hn]; exact h4, h5⟩

/-- The items that are made of them. -/
def rawL (K V : Nat → Int) (n : Nat) : List KI := (List.range n).map (kiOf K V)
theorem rawL_length (K V : Nat → Int) (n : Nat) : (rawL K V n).length = n := by simp [rawL]
theorem rawL_succ (K V : Nat → Int) (n : Nat) : rawL K V (n + 1) = rawL K V n ++ [kiOf K V n] := by simp [rawL, List.range_succ]
def kt (x : KI) : It := (x.b, x.v)
def kts (L : List KI) : List It := L.map kt
theorem kts_length (L : List KI) : (kts L).length = L.length := by simp [kts]
theorem kts_append (L M : List KI) : kts (L ++ M) = kts L ++ kts M := by simp [kts]
end Go.Proofs.YtbcmilfajeanbaaGreat

namespace Go.Proofs.YtbcmilfajeanbaaGreat
open Go.RowKit Go.Sort

/-- Two rows hold the same items. -/
theorem isV_same (x : KI) : isV x.b x.v (ni x.b) x.v = 0 := if_pos ⟨rfl, rfl⟩
end Go.Proofs.YtbcmilfajeanbaaGreat

namespace Go.Proofs.YtbcmilfajeanbaaGreat
open Go.RowKit Go.Sort

/-- Items in the making, as the document's: canonical or not. -/
def RawAt (w : World) (g : Nat) (n : Nat) (P V : Nat → Int) : Prop :=
  g < w.heap.size ∧ ∀ i, i < n → w.cell? ⟨g, i * 2, none⟩ = some (.int .u64 (P i)) ∧ w.cell? ⟨g, i * 2 + 1, none⟩ = some (.int .i64 (V i)) ∧ 0 ≤ P i ∧ P i < 18446744073709551616

def rsrt (P V : Nat → Int) (n : Nat) : List KI := (List.range n).foldl (fun L i => wth (kiOf P V i) L) []
theorem rsrt_succ (P V : Nat → Int) (n : Nat) : rsrt P V (n + 1) = wth (kiOf P V n) (rsrt P V n) := by simp [rsrt, List.range_succ]
theorem rsrt_length (P V : Nat → Int) : ∀ n, (rsrt P V n).length = n
  | 0 => rfl
  | n + 1 => by rw [rsrt_succ, wth_length, rsrt_length P V n]


end Go.Proofs.YtbcmilfajeanbaaGreat

namespace Go.Proofs.YtbcmilfajeanbaaGreat
open Go.RowKit Go.Sort

def ins (x : KI) : List KI → List KI
  | [] => [x]
  | y :: L => if x.lt y = true then x :: y :: L else y :: ins x L
def InOrder (L : List KI) : Prop := L.Pairwise fun a b => b.lt a = false

theorem ins_no {x y : KI} {L : List KI} (h : x.lt y = false) : ins x (y :: L) = y :: ins x L := by rw [ins, if_neg (by rw [h]; simp)]
theorem ins_yes {x y : KI} {L : List KI} (h : x.lt y = true) : ins x (y :: L) = x :: y :: L := by rw [ins, if_pos h]
theorem wfold_done (x : KI) : ∀ (L o : List KI), L.foldl (wstep x) (o, true) = (o ++ L, true)
  | [], o => by simp
  | y :: L, o => by
    rw [List.foldl_cons, show wstep x (o, true) y = (o ++ [y], true) by unfold wstep; rw [if_neg (by simp)], wfold_done x L]
    simp
theorem wfold_ins (x : KI) : ∀ (L o : List KI), (if (L.foldl (wstep x) (o, false)).2 = true then (L.foldl (wstep x) (o, false)).1 else (L.foldl (wstep x) (o, false)).1 ++ [x]) = o ++ ins x L
  | [], o => rfl
  | y :: L, o => by
    rw [List.foldl_cons]
    cases hc : x.lt y
    · rw [show wstep x (o, false) y = (o ++ [y], false) by unfold wstep; rw [if_neg (by rw [hc]; simp)], wfold_ins x L]
      rw [ins_no hc]
      simp
    · rw [show wstep x (o, false) y = (o ++ [x] ++ [y], true) by unfold wstep; rw [if_pos ⟨rfl, hc⟩], wfold_done]
      rw [ins_yes hc]
      simp
theorem wth_ins (x : KI) (L : List KI) : wth x L = ins x L := by
  have := wfold_ins x L []
  rw [List.nil_append] at this
  exact this
theorem ins_perm (x : KI) : ∀ L, (ins x L).Perm (x :: L)
  | [] => List.Perm.refl _
  | y :: L => by
    unfold ins
    split
    · exact List.Perm.refl _
    · exact ((ins_perm x L).cons y).trans (List.Perm.swap x y L)
theorem ins_order (x : KI) : ∀ L, InOrder L → InOrder (ins x L)
  | [], _ => List.pairwise_singleton _ _
  | y :: L, h => by
    obtain ⟨h1, h2⟩ := List.pairwise_cons.1 h
    unfold ins
    split
    case isTrue e =>
      refine List.pairwise_cons.2 ⟨fun z hz => ?_, h⟩
      rcases List.mem_cons.1 hz with rfl | hz
      · exact Hp.asym KI.swo e
      · exact KI.swo.ntrans _ _ _ (h1 z hz) (Hp.asym KI.swo e)
    case isFalse e =>
      refine List.pairwise_cons.2 ⟨fun z hz => ?_, ins_order x L h2⟩
      rcases List.mem_cons.1 ((ins_perm x L).mem_iff.1 hz) with rfl | hz
      · exact Bool.not_eq_true _ ▸ e
      · exact h1 z hz
/-- One order alone. -/
theorem order_eq : ∀ (L M : List KI), L.Perm M → InOrder L → InOrder M → L = M
  | [], M, hp, _, _ => by rw [hp.nil_eq]
  | x :: L, [], hp, _, _ => by have := hp.length_eq; simp at this
  | x :: L, y :: M, hp, hL, hM => by
    obtain ⟨a1, a2⟩ := List.pairwise_cons.1 hL
    obtain ⟨b1, b2⟩ := List.pairwise_cons.1 hM
    have hxy : x = y := by
      rcases List.mem_cons.1 (hp.mem_iff.1 List.mem_cons_self) with e | e
      · exact e
      · rcases List.mem_cons.1 (hp.mem_iff.2 (List.mem_cons_self (a := y) (l := M))) with e' | e'
        · exact e'.symm
        · exact KI.total x y (b1 x e) (a1 y e')
    subst hxy
    rw [order_eq L M (List.Perm.cons_inv hp) a2 b2]
theorem srt_order (L : List KI) : InOrder (srt L) := by
  have := List.pairwise_mergeSort (le := fun x y => !(KI.lt y x)) (fun a b c h1 h2 => by
    simp only [Bool.not_eq_true'] at *
    exact KI.swo.ntrans _ _ _ h2 h1) (fun a b => by
    cases h : KI.lt b a
    · simp
    · simp [Hp.asym KI.swo h]) L
  exact this.imp (fun h => by simpa using h)
theorem srt_perm (L : List KI) : (srt L).Perm L := List.mergeSort_perm _ _
theorem rsrt_order (P V : Nat → Int) : ∀ n, InOrder (rsrt P V n)
  | 0 => List.Pairwise.nil
  | n + 1 => by rw [rsrt_succ, wth_ins]; exact ins_order _ _ (rsrt_order P V n)
theorem rsrt_perm (P V : Nat → Int) : ∀ n, (rsrt P V n).Perm ((List.range n).map (kiOf P V))
  | 0 => List.Perm.refl _
  | n + 1 => by
    rw [rsrt_succ, wth_ins, List.range_succ, List.map_append]
    refine (ins_perm _ _).trans (((rsrt_perm P V n).cons _).trans ?_)
    exact (List.perm_append_singleton _ _).symm
/-- Whatever sorts the same items gives the document's list. -/
theorem srt_rsrt (P V : Nat → Int) (n : Nat) (L : List KI) (h : L.Perm ((List.range n).map (kiOf P V))) : srt L = rsrt P V n :=
  order_eq _ _ ((srt_perm L).trans (h.trans (rsrt_perm P V n).symm)) (srt_order L) (rsrt_order P V n)
theorem canArr_list (P V : Nat → Int) (n : Nat) : (canArr (fun i => nf (P i)) V n n).toList = (List.range n).map (kiOf P V) := by
  refine List.ext_getElem (by simp [canArr]) ?_
  intro i h1 h2
  have hi : i < n := by simpa using h2
  simp [canArr, hi, kiOf]
end Go.Proofs.YtbcmilfajeanbaaGreat

namespace Go.Proofs.YtbcmilfajeanbaaGreat
open Go.RowKit Go.Sort

theorem Row.items {w : World} {g cap : Nat} {d : Array KI} (h : Row w g cap d) : Items w (some ⟨g, 0, none⟩) d.size (fun i => d[i]!.b) (fun i => d[i]!.v) :=
  fun i hi => ⟨g, rfl, h.lt, h.flt i hi, h.val i hi, d[i]!.ok.1⟩
theorem all_any (b g : Nat) (d : Array KI) (w : World) (h : HeapAt w b g d) :
    Calls Tryz.prog 173 #[.pointer (some ⟨b, 0, none⟩)] w fun e w' => ∃ g', e = .returned (.slice (some ⟨g', 0, none⟩) d.size d.size) ∧ w.heap.size ≤ g' ∧ Row w' g' d.size (srt d.toList).toArray ∧ Below w.heap.size w w' := by
  obtain ⟨cap, hP⟩ := h.pile
  have hc := hP.hd
  have hbl := hP.blt
  have hS := hidd (sorted_any (some ⟨g, 0, none⟩) d.size cap _ _ w hP.row.items hP.row.max)
  rw [canArr_self] at hS
  generalize (srt d.toList).toArray = s at *
  generalize d.size = n at *
  clear h hP
  go_enter Tryz.func173, Tryz.ntmps173
  go_wp2_with fail
  refine hS.out.mono ?_
  rintro e w1 ⟨g', rfl, hg, hR, hB⟩
  have HR := hidd hR
  clear hR
  go_wp2
  go_ret
  exact ⟨g', rfl, hg, HR.out, hB⟩
end Go.Proofs.YtbcmilfajeanbaaGreat
