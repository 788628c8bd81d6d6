/-
  Layer 4's work: pile.Sorted: the canonical items in order, by the library's slices.SortFunc.
  The document's list in order: one more.
  Items in the making, as an argument; as the program's, as the document's.
  Are items the document's: contract.
  The document's list in order: of any items; and whether items are the document's.
  The document's list in order is the program's: insertion, one behind the other, and any other sort of the same items.
  Layer 4's work: Pile.All; rows of items read as an argument.
-/
import Derived.Test.YtdghgmaoamjnlaaGreatSortIt
import Derived.Test.YtdghgmaoamjnlaaGreatPileA
import Derived.Test.YtdghgmaoamjnlaaGreatFlat4All
namespace Go.Proofs.YtdghgmaoamjnlaaGreat
open Go.RowKit Go.Sort Go.Lib

def encK (x : KI) : List Value := [.float .f64 x.b, .int .i64 x.v]
def cfK (x y : KI) : Int := cmpN x.b x.v y.b y.v
theorem ltK : ltOf cfK = KI.lt := rfl

theorem closure_any (x y : KI) (W : World) : Calls Tryz.prog 64 #[.agg #[.float .f64 x.b, .int .i64 x.v], .agg #[.float .f64 y.b, .int .i64 y.v]] W fun e w' => e = .returned (.int .i64 (cfK x y)) ∧ ∃ q os', w' = grow (W.drewN q) os' := by
  have hC := fun w => icmp_any x.b y.b x.v y.v w x.ok.1 y.ok.1
  have hcf : cfK x y = cmpN x.b x.v y.b y.v := rfl
  rw [hcf]
  clear hcf
  generalize cmpN x.b x.v y.b y.v = c at *
  go_enter Tryz.func64, Tryz.ntmps64
  go_wp2_with (go_at_call 28; refine (hC _).mono ?_; rintro e w' ⟨rfl, hw⟩; replace hw := hw.symm; subst hw)
  go_ret
  exact ⟨rfl, 0, _, by rw [alloc_eq_grow, alloc_eq_grow, alloc_eq_grow, alloc_eq_grow, grow_grow, grow_grow, grow_grow]; rfl⟩

theorem cmpLays (blk off size : Nat) (w : World) : CmpLays Tryz.prog 64 #[] encK 2 cfK blk off size w :=
  fun _ _ _ _ x y => closure_any x y _

theorem flat0 (d : Array KI) (i : Nat) (h : i < d.size) : (flatK encK 2 d)[i * 2]! = .float .f64 d[i]!.b := by
  rw [get_flatK _ _ _ _ (by omega), Nat.mul_div_cancel _ (by decide), Nat.mul_mod_left]; rfl
theorem flat1 (d : Array KI) (i : Nat) (h : i < d.size) : (flatK encK 2 d)[i * 2 + 1]! = .int .i64 d[i]!.v := by
  rw [get_flatK _ _ _ _ (by omega), show (i * 2 + 1) / 2 = i by omega, show (i * 2 + 1) % 2 = 1 by omega]; rfl
theorem Row.holdsK {w : World} {g cap : Nat} {d : Array KI} (h : Row w g cap d) : HoldsK encK 2 w g 0 d := by
  intro j hj
  rw [size_flatK] at hj
  have hle := h.le
  rw [Nat.zero_add]
  refine ⟨?_, (h.there j (by omega)).2⟩
  show _ = some ((flatK encK 2 d)[j]!)
  rcases Nat.mod_two_eq_zero_or_one j with e | e
  · obtain ⟨i, rfl⟩ : ∃ i, j = i * 2 := ⟨j / 2, by omega⟩
    rw [flat0 d i (by omega)]; exact h.flt i (by omega)
  · obtain ⟨i, rfl⟩ : ∃ i, j = i * 2 + 1 := ⟨j / 2, by omega⟩
    rw [flat1 d i (by omega)]; exact h.val i (by omega)

theorem but_sort (w : World) (g n : Nat) (d : Array KI) (os : Array Obj) : But (fun k => k = g) w (sortWorldK encK 2 w g 0 n d os) := by
  refine ⟨rfl, rfl, rfl, ?_, ?_⟩
  · unfold sortWorldK putRowK
    rw [size_grow, size_putRow]
    exact Nat.le_add_right _ _
  · intro k hk hn
    unfold sortWorldK putRowK
    rw [heap_grow_old _ _ (by rw [size_putRow]; exact hk)]
    unfold putRow mapBlock
    show (w.heap.modify g _)[k]? = _
    rw [Array.getElem?_modify, if_neg (fun e => hn e.symm)]
theorem row_sort {w : World} {g n m : Nat} {d d' : Array KI} (h : Row w g n d) (hn : d.size = n) (hs : d'.size = d.size) (os : Array Obj) : Row (sortWorldK encK 2 w g 0 m d' os) g n d' := by
  have hb := but_sort w g m d' os
  have hl : g < (putRow id (Sort.ahead w m) g 0 (flatK encK 2 d')).heap.size := by rw [size_putRow]; exact h.lt
  have hH0 : Holds id (Sort.ahead w m) g 0 (flatK encK 2 d) := h.holdsK
  have hH : Holds id (sortWorldK encK 2 w g 0 m d' os) g 0 (flatK encK 2 d') :=
    holds_grow id _ os g 0 _ hl (holds_putRow id (Sort.ahead w m) g 0 _ _ hH0 (by rw [size_flatK, size_flatK, hs]))
  refine ⟨Nat.lt_of_lt_of_le h.lt hb.size, by rw [hs]; exact h.le, by rw [hs]; exact h.max, h.cmax, ?_, ?_, ?_⟩
  · intro i hi
    have := (hH (i * 2) (by rw [size_flatK]; omega)).1
    rw [Nat.zero_add, flat0 d' i hi] at this
    exact this
  · intro i hi
    have := (hH (i * 2 + 1) (by rw [size_flatK]; omega)).1
    rw [Nat.zero_add, flat1 d' i hi] at this
    exact this
  · intro j hj
    have := hH j (by rw [size_flatK, hs, hn]; exact hj)
    rw [Nat.zero_add] at this
    exact ⟨by rw [this.1]; rfl, this.2⟩

/-- The canonical items in order. -/
def srt (L : List KI) : List KI := L.mergeSort fun x y => !(KI.lt y x)

theorem sorted_any (a : Option Addr) (n cap : Nat) (P : Nat → Nat) (V : Nat → Int) (w : World) (h : Items w a n P V) (hn : n ≤ 1099511627776) :
    Calls Tryz.prog 18 #[.slice a n cap] w fun e w' => ∃ g, e = .returned (.slice (some ⟨g, 0, none⟩) n n) ∧ w.heap.size ≤ g ∧ Row w' g n (srt (canArr P V n n).toList).toArray ∧ Below w.heap.size w w' := by
  have hcan := canonical_any a n cap P V w h hn
  have eg : ∀ args w, (callFunc 64 args).run Tryz.prog w = .ok (.enter 64 args) w := enters_of Tryz.func64 (by kernel_rfl) rfl
  have hsort : ∀ w1 g, w.heap.size ≤ g → Row w1 g n (canArr P V n n) → Below w.heap.size w w1 → Calls Tryz.prog 63 #[.slice (some ⟨g, 0, none⟩) n n, .func (.func 64) #[] #[]] w1 fun e w' => e = .returned (.tuple #[]) ∧ Row w' g n (srt (canArr P V n n).toList).toArray ∧ Below w.heap.size w w' := by
    intro w1 g hg hR hB
    have hz := canArr_size P V n n
    have := AnyQ.slices_SortFunc_total Tryz.sortIt 2 Tryz.isAgg53 Tryz.sizeOf53 encK (fun _ => rfl) (fun x v hv => by simp [encK] at hv; rcases hv with rfl | rfl <;> rfl) cfK (by rw [ltK]; exact KI.swo) 64 #[] g 0 n (canArr P V n n) w1 eg (cmpLays g 0 _ w1) hR.holdsK hR.lt (by rw [hz]; omega) (by rw [ltK]; exact KI.total)
    rw [hz] at this
    refine Calls.mono this ?_
    rintro e w' ⟨rfl, m, os, rfl⟩
    rw [ltK]
    refine ⟨rfl, row_sort hR hz (by simp [hz, List.length_mergeSort]) os, hB.trans ((but_sort w1 g m _ os).below hB.size (fun k e => by omega))⟩
  clear h hn eg
  go_enter Tryz.func18, Tryz.ntmps18
  go_wp2_with fail
  refine hcan.mono ?_
  rintro e w1 ⟨g, rfl, hg, hR, hB⟩
  go_wp2_with fail
  refine (hsort _ g hg hR hB).mono ?_
  rintro e w2 ⟨rfl, hR2, hB2⟩
  clear hR hB hcan hsort
  go_wp2
  go_ret
  exact ⟨g, rfl, hg, hR2, hB2⟩
end Go.Proofs.YtdghgmaoamjnlaaGreat

namespace Go.Proofs.YtdghgmaoamjnlaaGreat
open Go.RowKit Go.Sort

/-- One step of the document's insertion, and all of them. -/
def wstep (x : KI) (r : List KI × Bool) (y : KI) : List KI × Bool := if r.2 = false ∧ x.lt y = true then (r.1 ++ [x] ++ [y], true) else (r.1 ++ [y], r.2)
def wst (x : KI) (L : List KI) : List KI × Bool := L.foldl (wstep x) ([], false)
theorem wst_snoc (x : KI) (L : List KI) (y : KI) : wst x (L ++ [y]) = wstep x (wst x L) y := by simp [wst]
def wth (x : KI) (L : List KI) : List KI := if (wst x L).2 = true then (wst x L).1 else (wst x L).1 ++ [x]
theorem wstep_length (x : KI) (r : List KI × Bool) (y : KI) (n : Nat) (h : r.1.length = n + r.2.toNat) : (wstep x r y).1.length = (n + 1) + (wstep x r y).2.toNat := by
  unfold wstep
  split
  case isTrue e => rw [e.1] at h; simp at h; simp [h]
  case isFalse e => simp [h]; omega
theorem wfold_length (x : KI) : ∀ (M : List KI) (r : List KI × Bool) (n : Nat), r.1.length = n + r.2.toNat → (M.foldl (wstep x) r).1.length = n + M.length + (M.foldl (wstep x) r).2.toNat
  | [], r, n, h => h
  | y :: M, r, n, h => by
    have := wfold_length x M _ _ (wstep_length x r y n h)
    rw [List.foldl_cons, this, List.length_cons]; omega
theorem wst_length (x : KI) (L : List KI) : (wst x L).1.length = L.length + (wst x L).2.toNat := by
  have := wfold_length x L ([], false) 0 rfl
  rw [Nat.zero_add] at this
  exact this
theorem wth_length (x : KI) (L : List KI) : (wth x L).length = L.length + 1 := by
  have := wst_length x L
  unfold wth
  split
  case isTrue e => rw [e] at this; exact this
  case isFalse e => rw [Bool.not_eq_true] at e; rw [e] at this; simp [this]

set_option maxHeartbeats 2000000 in
theorem withR_any (a : Option Addr) (cap : Nat) (L : List KI) (x : KI) (w : World) (h : RdR w a L) (hn : L.length ≤ 1000000) :
    Calls Tryz.prog 96 #[.slice a L.length cap, .agg #[.int .u64 (ni x.b), .int .i64 x.v]] w fun e w' => ∃ g' cap', e = .returned (.slice (some ⟨g', 0, none⟩) (L.length + 1) cap') ∧ w.heap.size ≤ g' ∧ Flat 2 w' g' cap' (L.length + 1) (flatR (wth x L)) ∧ Below w.heap.size w w' := by
  have hx0 : 0 ≤ ni x.b ∧ ni x.b < 18446744073709551616 := by have := x.ok.1; unfold ni; omega
  go_enter Tryz.func96, Tryz.ntmps96
  go_wp2
  go_loopw [5, 6, 12] (fun o dn c wr => ∃ (k g' cap' : Nat), c = .int .i64 (k : Int) ∧ k ≤ L.length ∧ dn = .bool (wst x (L.take k)).2 ∧ o = .slice (some ⟨g', 0, none⟩) (wst x (L.take k)).1.length cap' ∧ w.heap.size < g' ∧ Flat 2 wr g' cap' (wst x (L.take k)).1.length (flatR (wst x (L.take k)).1) ∧ Below w.heap.size w wr ∧ wr.cell? ⟨w.heap.size, 0, none⟩ = some (.int .u64 (ni x.b)) ∧ wr.cell? ⟨w.heap.size, 1, none⟩ = some (.int .i64 x.v)) (fun _ _ c _ => L.length - (intOf c).toNat)
  case atStart =>
    exact ⟨0, w.heap.size + 1, 0, rfl, Nat.zero_le _, rfl, rfl, Nat.lt_succ_self _, by have := Flat.new (w.alloc (.cells #[.int .u64 (ni x.b), .int .i64 x.v] 69)) [] 69 2 0 rfl (Nat.zero_le _) (fun _ h => (by cases h)); rw [World.size_alloc] at this; exact this, ((Below.refl _ _).alloc (Nat.le_refl _) _).alloc (by simp) _, by simp, by simp⟩
  case round =>
    obtain ⟨k, g', cap', rfl, hk, rfl, rfl, hg', hF, hB, cx0, cx1⟩ := hrel
    have hl := wst_length x (L.take k)
    have hbl : w.heap.size < wr.heap.size := World.block_lt_of_cell? _ _ cx0
    by_cases hlt : k < L.length
    · have hst : wst x (L.take (k + 1)) = wstep x (wst x (L.take k)) L[k] := by rw [← wst_snoc, List.take_succ_eq_append_getElem hlt]
      obtain ⟨g, off, ha, hglt, h0, h1⟩ := h k hlt
      subst ha
      have hc0 := (hB.cell (p := ⟨g, off + k * 2, none⟩) hglt).trans h0
      have hc1 := (hB.cell (p := ⟨g, off + k * 2 + 1, none⟩) hglt).trans h1
      clear h0 h1
      have hk1 : (k : Int) < (L.length : Int) := by omega
      generalize L[k] = y at *
      have hy0 : 0 ≤ ni y.b ∧ ni y.b < 18446744073709551616 := by have := y.ok.1; unfold ni; omega
      have hcm := hidd (fun w => rcmp4_any (ni x.b) x.v (ni y.b) y.v w hx0.1 hx0.2 hy0.1 hy0.2)
      rw [nf_ni, nf_ni] at hcm
      have hLT : x.lt y = decide (cmpN x.b x.v y.b y.v < 0) := rfl
      have hsl : (wst x (L.take k)).1.length ≤ 1000001 := by rw [hl, List.length_take]; have := Bool.toNat_le (wst x (L.take k)).2; omega
      obtain ⟨r, hr⟩ : ∃ r, wst x (L.take k) = r := ⟨_, rfl⟩
      rw [hr] at hst hF hsl ⊢
      obtain ⟨o, dn⟩ := r
      simp only at hF hsl ⊢
      have hgl := hF.lt
      have FIN : Hid (∀ (o2 : List KI) (d2 : Bool) (g2 cap2 n2 : Nat) (l2 : List Value) (w2 : World), wstep x (o, dn) y = (o2, d2) → n2 = o2.length → l2 = flatR o2 → Flat 2 w2 g2 cap2 n2 l2 → (g2 = g' ∨ wr.heap.size ≤ g2) → But (fun j => j = g') wr w2 →
          ∃ (k_1 g' cap' : Nat), Value.int .i64 ((k : Int) + 1) = .int .i64 (k_1 : Int) ∧ k_1 ≤ L.length ∧ Value.bool d2 = .bool (wst x (List.take k_1 L)).2 ∧ Value.slice (some ⟨g2, 0, none⟩) n2 cap2 = .slice (some ⟨g', 0, none⟩) (wst x (List.take k_1 L)).1.length cap' ∧ w.heap.size < g' ∧
            Flat 2 w2 g' cap' (wst x (List.take k_1 L)).1.length (flatR (wst x (List.take k_1 L)).1) ∧ Below w.heap.size w w2 ∧ w2.cell? ⟨w.heap.size, 0, none⟩ = some (.int .u64 (ni x.b)) ∧ w2.cell? ⟨w.heap.size, 1, none⟩ = some (.int .i64 x.v)) := by
        intro o2 d2 g2 cap2 n2 l2 w2 h1 hn2 hl2 h2 h3 h4
        subst hn2; subst hl2
        have hne : ¬ (w.heap.size = g') := by omega
        refine ⟨k + 1, g2, cap2, rfl, by omega, ?_, ?_, by omega, ?_, hB.trans (h4.below hB.size (fun j e => by omega)), (h4.cell (p := ⟨w.heap.size, 0, none⟩) hbl hne).trans cx0, (h4.cell (p := ⟨w.heap.size, 1, none⟩) hbl hne).trans cx1⟩
        all_goals rw [hst, h1]
        exact h2
      have HF := hidd hF
      have HSL := hidd hsl
      clear hl hr hst hF hx0 hy0 hsl
      cases dn
      · have hbx : But (fun _ => False) wr (wr.alloc (.cells #[.int .u64 (ni y.b), .int .i64 y.v] 69)) := (But.refl _ _).alloc _
        have d0 := (hbx.cell (p := ⟨w.heap.size, 0, none⟩) hbl id).trans cx0
        have d1 := (hbx.cell (p := ⟨w.heap.size, 1, none⟩) hbl id).trans cx1
        clear hbx d0 d1
        go_wp2_with fail
        refine (hcm.out _).mono ?_
        rintro e w3 ⟨rfl, hb3⟩
        have hB3 : But (fun _ => False) wr w3 := ((But.refl _ _).alloc _).trans (But.of_below hb3)
        have hz3 : wr.heap.size < w3.heap.size := by have := hb3.size; simp at this; omega
        have y0 : w3.cell? ⟨wr.heap.size, 0, none⟩ = some (.int .u64 (ni y.b)) := by rw [hb3.cell (p := ⟨wr.heap.size, 0, none⟩) (by simp)]; simp
        have y1 : w3.cell? ⟨wr.heap.size, 1, none⟩ = some (.int .i64 y.v) := by rw [hb3.cell (p := ⟨wr.heap.size, 1, none⟩) (by simp)]; simp
        have x0 := (hB3.cell (p := ⟨w.heap.size, 0, none⟩) hbl id).trans cx0
        have x1 := (hB3.cell (p := ⟨w.heap.size, 1, none⟩) hbl id).trans cx1
        cases hc : x.lt y
        · have hst : wstep x (o, false) y = (o ++ [y], false) := by unfold wstep; rw [if_neg (by rw [hc]; simp)]
          have hcc : decide (cmpN x.b x.v y.b y.v < 0) = false := hLT.symm.trans hc
          have HH := hidd hst
          clear hst hc hLT hcm hb3
          generalize cmpN x.b x.v y.b y.v = cc at *
          go_wp2_with (at_builtin; refine wpList_flat plainR _ rfl (.tmp 28) (.tmp 30) rfl g' cap' _ (flatR o) rfl (HF.out.but (S := fun _ => False) (hB3.alloc _) id) _ rfl 1 _ (src_two _ Tryz.underlying70 _ (.int .u64 (ni y.b)) (.int .i64 y.v) (by simp) (by simp) rfl rfl) (by have := HSL.out; omega) ?_; intro g2 cap2 w2 hF2 hb2 hg2)
          refine ⟨FIN.out _ _ g2 cap2 _ _ w2 HH.out (by simp) (by rw [flatR_append]; rfl) hF2 (by rcases hg2 with e | e; exact .inl e; simp at e; exact .inr (by omega)) (((hB3.alloc _).mono (fun _ _ e => e.elim)).trans hb2), ?_⟩
          simp [intOf]; omega
        · have hst : wstep x (o, false) y = (o ++ [x] ++ [y], true) := by unfold wstep; rw [if_pos ⟨rfl, hc⟩]
          have hcc : cmpN x.b x.v y.b y.v < 0 := of_decide_eq_true (hLT.symm.trans hc)
          have HH := hidd hst
          clear hst hc hLT hcm hb3
          generalize cmpN x.b x.v y.b y.v = cc at *
          go_wp2_with (at_builtin; first
            | (refine wpList_flat plainR _ rfl (.tmp 24) (.tmp 26) rfl g' cap' _ (flatR o) rfl (HF.out.but (S := fun _ => False) (hB3.alloc _) id) _ rfl 1 _ (src_two _ Tryz.underlying70 _ (.int .u64 (ni x.b)) (.int .i64 x.v) (by simp) (by simp) rfl rfl) (by have := HSL.out; omega) ?_
               intro g2 cap2 w2 hF2 hb2 hg2
               have hB2 : But (fun j => j = g') wr w2 := ((hB3.alloc _).mono (fun _ _ e => e.elim)).trans hb2
               have hne : ¬ (wr.heap.size = g') := by omega
               have y0' : w2.cell? ⟨wr.heap.size, 0, none⟩ = some (.int .u64 (ni y.b)) := by rw [hb2.cell (p := ⟨wr.heap.size, 0, none⟩) (by simp; omega) hne, (((But.refl (fun _ => False) w3).alloc _).cell (p := ⟨wr.heap.size, 0, none⟩) hz3 id)]; exact y0
               have y1' : w2.cell? ⟨wr.heap.size, 1, none⟩ = some (.int .i64 y.v) := by rw [hb2.cell (p := ⟨wr.heap.size, 1, none⟩) (by simp; omega) hne, (((But.refl (fun _ => False) w3).alloc _).cell (p := ⟨wr.heap.size, 1, none⟩) hz3 id)]; exact y1
               have hz2 : wr.heap.size < w2.heap.size := World.block_lt_of_cell? _ _ y0'
               have HF2 := hidd hF2
               have HG2 := hidd hg2
               clear hF2 hg2 hb2)
            | (refine wpList_flat plainR _ rfl (.tmp 28) (.tmp 30) rfl g2 cap2 _ _ rfl (HF2.out.but (S := fun _ => False) ((But.refl _ _).alloc _) id) _ rfl 1 _ (src_two _ Tryz.underlying70 _ (.int .u64 (ni y.b)) (.int .i64 y.v) (by simp) (by simp) rfl rfl) (by have := HSL.out; omega) ?_
               intro g4 cap4 w4 hF4 hb4 hg4))
          have hs3 : wr.heap.size ≤ w3.heap.size := Nat.le_of_lt hz3
          have hg2 := HG2.out
          rw [World.size_alloc] at hg2 hg4
          refine ⟨FIN.out _ _ g4 cap4 _ _ w4 HH.out (by simp) (by rw [flatR_append, flatR_append]; rfl) hF4 (by omega) (hB2.then (T := fun j => j = g2) (((But.refl _ _).alloc _).trans hb4) (fun i hi e => by omega)), ?_⟩
          simp [intOf]; omega
      · have hst : wstep x (o, true) y = (o ++ [y], true) := by unfold wstep; rw [if_neg (by simp)]
        have HH := hidd hst
        clear hst hLT hcm
        go_wp2_with (at_builtin; refine wpList_flat plainR _ rfl (.tmp 28) (.tmp 30) rfl g' cap' _ (flatR o) rfl (HF.out.but (S := fun _ => False) (((But.refl _ _).alloc _).alloc _) id) _ rfl 1 _ (src_two _ Tryz.underlying70 _ (.int .u64 (ni y.b)) (.int .i64 y.v) (by simp) (by simp) rfl rfl) (by have := HSL.out; omega) ?_; intro g2 cap2 w2 hF2 hb2 hg2)
        refine ⟨FIN.out _ _ g2 cap2 _ _ w2 HH.out (by simp) (by rw [flatR_append]; rfl) hF2 (by rcases hg2 with e | e; exact .inl e; simp at e; exact .inr (by omega)) (((((But.refl _ _).alloc _).alloc _)).trans hb2), ?_⟩
        simp [intOf]; omega
    · have hkL : k = L.length := by omega
      subst hkL
      rw [List.take_length] at hF hl ⊢
      have hsl : (wst x L).1.length ≤ 1000001 := by rw [hl]; have := Bool.toNat_le (wst x L).2; omega
      cases hd : (wst x L).2
      · have hw : wth x L = (wst x L).1 ++ [x] := by unfold wth; rw [hd]; rfl
        have hl2 : (wst x L).1.length = L.length := by rw [hl, hd]; rfl
        have HW := hidd hw
        have HL := hidd hl2
        have HF := hidd hF
        have HSL := hidd hsl
        have hgl := hF.lt
        clear hw hl2 hF hsl hl hd hx0
        generalize (wst x L).1 = o at *
        go_wp2_with (at_builtin; refine wpList_flat plainR _ rfl (.tmp 35) (.tmp 37) rfl g' cap' _ (flatR o) rfl (HF.out.but (S := fun _ => False) ((But.refl _ _).alloc _) id) _ rfl 1 _ (src_two _ Tryz.underlying70 _ (.int .u64 (ni x.b)) (.int .i64 x.v) (by simp) (by simp) rfl rfl) (by have := HSL.out; omega) ?_; intro g2 cap2 w2 hF2 hb2 hg2)
        go_ret
        rw [HL.out] at hF2 ⊢
        rw [World.size_alloc] at hg2
        refine ⟨g2, cap2, rfl, by have := hB.size; omega, ?_, hB.trans ((((But.refl _ _).alloc _).trans hb2).below hB.size (fun j e => by omega))⟩
        rw [HW.out, flatR_append]; exact hF2
      · have hw : wth x L = (wst x L).1 := by unfold wth; rw [hd]; rfl
        have hl2 : (wst x L).1.length = L.length + 1 := by rw [hl, hd]; rfl
        have HW := hidd hw
        have HL := hidd hl2
        have HF := hidd hF
        clear hw hl2 hF hsl hl hd hx0
        generalize (wst x L).1 = o at *
        go_wp2
        go_ret
        refine ⟨g', cap', ?_, by omega, ?_, hB⟩
        · rw [HL.out]; rfl
        · rw [HW.out, ← HL.out]; exact HF.out
theorem with_any (g cap : Nat) (L : List KI) (x : KI) (w : World) (h : Flat 2 w g cap L.length (flatR L)) (hn : L.length ≤ 1000000) :
    Calls Tryz.prog 96 #[.slice (some ⟨g, 0, none⟩) L.length cap, .agg #[.int .u64 (ni x.b), .int .i64 x.v]] w fun e w' => ∃ g' cap', e = .returned (.slice (some ⟨g', 0, none⟩) (L.length + 1) cap') ∧ w.heap.size ≤ g' ∧ Flat 2 w' g' cap' (L.length + 1) (flatR (wth x L)) ∧ Below w.heap.size w w' :=
  withR_any _ cap L x w (RdR.of_flat h) hn
end Go.Proofs.YtdghgmaoamjnlaaGreat

namespace Go.Proofs.YtdghgmaoamjnlaaGreat
open Go.RowKit Go.Sort

/-- Items in the making, as an argument. -/
def Raws (w : World) (a : Option Addr) (n : Nat) (K M : Nat → Int) : Prop :=
  ∀ i, i < n → ∃ g off, a = some ⟨g, off, none⟩ ∧ g < w.heap.size ∧ w.cell? ⟨g, off + i * 2, none⟩ = some (.int .u64 (K i)) ∧ w.cell? ⟨g, off + i * 2 + 1, none⟩ = some (.int .i64 (M i)) ∧ 0 ≤ K i ∧ K i < 18446744073709551616
theorem Raws.below {w w' : World} {a : Option Addr} {n : Nat} {K M : Nat → Int} (h : Raws w a n K M) (hb : Below w.heap.size w w') : Raws w' a n K M := fun i hi => by
  obtain ⟨g, off, h1, h2, h3, h4, h5⟩ := h i hi
  exact ⟨g, off, h1, Nat.lt_of_lt_of_le h2 hb.size, by rw [hb.cell (p := ⟨g, off + i * 2, none⟩) h2]; exact h3, by rw [hb.cell (p := ⟨g, off + i * 2 + 1, none⟩) h2]; exact h4, h5⟩
theorem Raws.but {S : Nat → Prop} {w w' : World} {a : Option Addr} {n : Nat} {K M : Nat → Int} (h : Raws w a n K M) (hb : But S w w') (hS : ∀ k, inB a k → ¬ S k) : Raws w' a n K M := fun i hi => by
  obtain ⟨g, off, h1, h2, h3, h4, h5⟩ := h i hi
  have hn : ¬ S g := hS g ⟨_, h1, rfl⟩
  exact ⟨g, off, h1, Nat.lt_of_lt_of_le h2 hb.size, by rw [hb.cell (p := ⟨g, off + i * 2, none⟩) h2 hn]; exact h3, by rw [hb.cell (p := ⟨g, off + i * 2 + 1, none⟩) h2 hn]; exact h4, h5⟩

/-- The items that are made of them. -/
def rawL (K V : Nat → Int) (n : Nat) : List KI := (List.range n).map (kiOf K V)
theorem rawL_length (K V : Nat → Int) (n : Nat) : (rawL K V n).length = n := by simp [rawL]
theorem rawL_succ (K V : Nat → Int) (n : Nat) : rawL K V (n + 1) = rawL K V n ++ [kiOf K V n] := by simp [rawL, List.range_succ]
def kt (x : KI) : It := (x.b, x.v)
def kts (L : List KI) : List It := L.map kt
theorem kts_length (L : List KI) : (kts L).length = L.length := by simp [kts]
theorem kts_append (L M : List KI) : kts (L ++ M) = kts L ++ kts M := by simp [kts]
end Go.Proofs.YtdghgmaoamjnlaaGreat

namespace Go.Proofs.YtdghgmaoamjnlaaGreat
open Go.RowKit Go.Sort

/-- Two rows hold the same items. -/
theorem isV_same (x : KI) : isV x.b x.v (ni x.b) x.v = 0 := if_pos ⟨rfl, rfl⟩
set_option maxHeartbeats 1000000 in
theorem areR_any (g1 c1 : Nat) (a2 : Option Addr) (c2 n : Nat) (L : List KI) (w : World) (h1 : Row w g1 c1 L.toArray) (h2 : RdR w a2 L) (hL : L.length = n) :
    Calls Tryz.prog 72 #[.slice (some ⟨g1, 0, none⟩) n c1, .slice a2 n c2] w fun e w' => e = .returned (.int .i64 0) ∧ Below w.heap.size w w' := by
  have hl1 := h1.lt
  have hnn : n ≤ 1099511627776 := by have := h1.max; simpa [hL] using this
  go_enter Tryz.func72, Tryz.ntmps72
  go_wp2
  go_loopw [13] (fun c wr => ∃ (k : Nat), c = .int .i64 (k : Int) ∧ k ≤ n ∧ Below w.heap.size w wr) (fun c _ => n - (intOf c).toNat)
  case atStart => exact ⟨0, rfl, Nat.zero_le _, Below.refl _ _⟩
  case round =>
    obtain ⟨k, rfl, hk, hB⟩ := hrel
    by_cases hlt : k < n
    · have hkl : k < L.length := by omega
      have e0 := (hB.cell (p := ⟨g1, k * 2, none⟩) hl1).trans (h1.flt k (by simpa using hkl))
      have e1 := (hB.cell (p := ⟨g1, k * 2 + 1, none⟩) hl1).trans (h1.val k (by simpa using hkl))
      obtain ⟨g2, o2, ha2, hl2, hr0, hr1⟩ := h2 k hkl
      subst ha2
      have f0 := (hB.cell (p := ⟨g2, o2 + k * 2, none⟩) hl2).trans hr0
      have f1 := (hB.cell (p := ⟨g2, o2 + k * 2 + 1, none⟩) hl2).trans hr1
      clear hr0 hr1
      have hx : L.toArray[k]! = L[k] := by rw [getElem!_pos L.toArray k (by simpa using hkl)]; rfl
      rw [hx] at e0 e1
      generalize L[k] = x at *
      have his := hidd (fun w => is_any x.b x.v (ni x.b) x.v w)
      rw [isV_same] at his
      have k1 : (k : Int) < (n : Int) := by omega
      clear hx
      go_wp2
      go_region_with (go_at_call 36; refine (his.out _).mono ?_; rintro e w3 ⟨rfl, hb3⟩)
      all_goals go_wp2
      all_goals exact ⟨⟨k + 1, rfl, by omega, hB.trans ((((But.refl (fun _ => False) wr).drew).trans (But.of_below hb3)).below hB.size (fun _ e => e.elim))⟩, by simp [intOf]; omega⟩
    · have hkn : k = n := by omega
      subst hkn
      go_wp2
      go_ret
      exact ⟨rfl, hB⟩
theorem are_any (g1 c1 g2 c2 n : Nat) (L : List KI) (w : World) (h1 : Row w g1 c1 L.toArray) (h2 : Flat 2 w g2 c2 n (flatR L)) (hL : L.length = n) :
    Calls Tryz.prog 72 #[.slice (some ⟨g1, 0, none⟩) n c1, .slice (some ⟨g2, 0, none⟩) n c2] w fun e w' => e = .returned (.int .i64 0) ∧ Below w.heap.size w w' :=
  areR_any g1 c1 _ c2 n L w h1 (RdR.of_flat (by rw [hL]; exact h2)) hL
end Go.Proofs.YtdghgmaoamjnlaaGreat

namespace Go.Proofs.YtdghgmaoamjnlaaGreat
open Go.RowKit Go.Sort

/-- Items in the making, as the document's: canonical or not. -/
def RawAt (w : World) (g : Nat) (n : Nat) (P V : Nat → Int) : Prop :=
  g < w.heap.size ∧ ∀ i, i < n → w.cell? ⟨g, i * 2, none⟩ = some (.int .u64 (P i)) ∧ w.cell? ⟨g, i * 2 + 1, none⟩ = some (.int .i64 (V i)) ∧ 0 ≤ P i ∧ P i < 18446744073709551616

def rsrt (P V : Nat → Int) (n : Nat) : List KI := (List.range n).foldl (fun L i => wth (kiOf P V i) L) []
theorem rsrt_succ (P V : Nat → Int) (n : Nat) : rsrt P V (n + 1) = wth (kiOf P V n) (rsrt P V n) := by simp [rsrt, List.range_succ]
theorem rsrt_length (P V : Nat → Int) : ∀ n, (rsrt P V n).length = n
  | 0 => rfl
  | n + 1 => by rw [rsrt_succ, wth_length, rsrt_length P V n]


end Go.Proofs.YtdghgmaoamjnlaaGreat

namespace Go.Proofs.YtdghgmaoamjnlaaGreat
open Go.RowKit Go.Sort

def ins (x : KI) : List KI → List KI
  | [] => [x]
  | y :: L => if x.lt y = true then x :: y :: L else y :: ins x L
def InOrder (L : List KI) : Prop := L.Pairwise fun a b => b.lt a = false

theorem ins_no {x y : KI} {L : List KI} (h : x.lt y = false) : ins x (y :: L) = y :: ins x L := by rw [ins, if_neg (by rw [h]; simp)]
theorem ins_yes {x y : KI} {L : List KI} (h : x.lt y = true) : ins x (y :: L) = x :: y :: L := by rw [ins, if_pos h]
theorem wfold_done (x : KI) : ∀ (L o : List KI), L.foldl (wstep x) (o, true) = (o ++ L, true)
  | [], o => by simp
  | y :: L, o => by
    rw [List.foldl_cons, show wstep x (o, true) y = (o ++ [y], true) by unfold wstep; rw [if_neg (by simp)], wfold_done x L]
    simp
theorem wfold_ins (x : KI) : ∀ (L o : List KI), (if (L.foldl (wstep x) (o, false)).2 = true then (L.foldl (wstep x) (o, false)).1 else (L.foldl (wstep x) (o, false)).1 ++ [x]) = o ++ ins x L
  | [], o => rfl
  | y :: L, o => by
    rw [List.foldl_cons]
    cases hc : x.lt y
    · rw [show wstep x (o, false) y = (o ++ [y], false) by unfold wstep; rw [if_neg (by rw [hc]; simp)], wfold_ins x L]
      rw [ins_no hc]
      simp
    · rw [show wstep x (o, false) y = (o ++ [x] ++ [y], true) by unfold wstep; rw [if_pos ⟨rfl, hc⟩], wfold_done]
      rw [ins_yes hc]
      simp
theorem wth_ins (x : KI) (L : List KI) : wth x L = ins x L := by
  have := wfold_ins x L []
  rw [List.nil_append] at this
  exact this
theorem ins_perm (x : KI) : ∀ L, (ins x L).Perm (x :: L)
  | [] => List.Perm.refl _
  | y :: L => by
    unfold ins
    split
    · exact List.Perm.refl _
    · exact ((ins_perm x L).cons y).trans (List.Perm.swap x y L)
theorem ins_order (x : KI) : ∀ L, InOrder L → InOrder (ins x L)
  | [], _ => List.pairwise_singleton _ _
  | y :: L, h => by
    obtain ⟨h1, h2⟩ := List.pairwise_cons.1 h
    unfold ins
    split
    case isTrue e =>
      refine List.pairwise_cons.2 ⟨fun z hz => ?_, h⟩
      rcases List.mem_cons.1 hz with rfl | hz
      · exact Hp.asym KI.swo e
      · exact KI.swo.ntrans _ _ _ (h1 z hz) (Hp.asym KI.swo e)
    case isFalse e =>
      refine List.pairwise_cons.2 ⟨fun z hz => ?_, ins_order x L h2⟩
      rcases List.mem_cons.1 ((ins_perm x L).mem_iff.1 hz) with rfl | hz
      · exact Bool.not_eq_true _ ▸ e
      · exact h1 z hz
/-- One order alone. -/
theorem order_eq : ∀ (L M : List KI), L.Perm M → InOrder L → InOrder M → L = M
  | [], M, hp, _, _ => by rw [hp.nil_eq]
  | x :: L, [], hp, _, _ => by have := hp.length_eq; simp at this
  | x :: L, y :: M, hp, hL, hM => by
    obtain ⟨a1, a2⟩ := List.pairwise_cons.1 hL
    obtain ⟨b1, b2⟩ := List.pairwise_cons.1 hM
    have hxy : x = y := by
      rcases List.mem_cons.1 (hp.mem_iff.1 List.mem_cons_self) with e | e
      · exact e
      · rcases List.mem_cons.1 (hp.mem_iff.2 (List.mem_cons_self (a := y) (l := M))) with e' | e'
        · exact e'.symm
        · exact KI.total x y (b1 x e) (a1 y e')
    subst hxy
    rw [order_eq L M (List.Perm.cons_inv hp) a2 b2]
theorem srt_order (L : List KI) : InOrder (srt L) := by
  have := List.pairwise_mergeSort (le := fun x y => !(KI.lt y x)) (fun a b c h1 h2 => by
    simp only [Bool.not_eq_true'] at *
    exact KI.swo.ntrans _ _ _ h2 h1) (fun a b => by
    cases h : KI.lt b a
    · simp
    · simp [Hp.asym KI.swo h]) L
  exact this.imp (fun h => by simpa using h)
theorem srt_perm (L : List KI) : (srt L).Perm L := List.mergeSort_perm _ _
theorem rsrt_order (P V : Nat → Int) : ∀ n, InOrder (rsrt P V n)
  | 0 => List.Pairwise.nil
  | n + 1 => by rw [rsrt_succ, wth_ins]; exact ins_order _ _ (rsrt_order P V n)
theorem rsrt_perm (P V : Nat → Int) : ∀ n, (rsrt P V n).Perm ((List.range n).map (kiOf P V))
  | 0 => List.Perm.refl _
  | n + 1 => by
    rw [rsrt_succ, wth_ins, List.range_succ, List.map_append]
    refine (ins_perm _ _).trans (((rsrt_perm P V n).cons _).trans ?_)
    exact (List.perm_append_singleton _ _).symm
/-- Whatever sorts the same items gives the document's list. -/
theorem srt_rsrt (P V : Nat → Int) (n : Nat) (L : List KI) (h : L.Perm ((List.range n).map (kiOf P V))) : srt L = rsrt P V n :=
  order_eq _ _ ((srt_perm L).trans (h.trans (rsrt_perm P V n).symm)) (srt_order L) (rsrt_order P V n)
theorem canArr_list (P V : Nat → Int) (n : Nat) : (canArr (fun i => nf (P i)) V n n).toList = (List.range n).map (kiOf P V) := by
  refine List.ext_getElem (by simp [canArr]) ?_
  intro i h1 h2
  have hi : i < n := by simpa using h2
  simp [canArr, hi, kiOf]
end Go.Proofs.YtdghgmaoamjnlaaGreat

namespace Go.Proofs.YtdghgmaoamjnlaaGreat
open Go.RowKit Go.Sort

theorem Row.items {w : World} {g cap : Nat} {d : Array KI} (h : Row w g cap d) : Items w (some ⟨g, 0, none⟩) d.size (fun i => d[i]!.b) (fun i => d[i]!.v) :=
  fun i hi => ⟨g, rfl, h.lt, h.flt i hi, h.val i hi, d[i]!.ok.1⟩
theorem all_any (b g : Nat) (d : Array KI) (w : World) (h : HeapAt w b g d) :
    Calls Tryz.prog 209 #[.pointer (some ⟨b, 0, none⟩)] w fun e w' => ∃ g', e = .returned (.slice (some ⟨g', 0, none⟩) d.size d.size) ∧ w.heap.size ≤ g' ∧ Row w' g' d.size (srt d.toList).toArray ∧ Below w.heap.size w w' := by
  obtain ⟨cap, hP⟩ := h.pile
  have hc := hP.hd
  have hbl := hP.blt
  have hS := hidd (sorted_any (some ⟨g, 0, none⟩) d.size cap _ _ w hP.row.items hP.row.max)
  rw [canArr_self] at hS
  generalize (srt d.toList).toArray = s at *
  generalize d.size = n at *
  clear h hP
  go_enter Tryz.func209, Tryz.ntmps209
  go_wp2_with fail
  refine hS.out.mono ?_
  rintro e w1 ⟨g', rfl, hg, hR, hB⟩
  have HR := hidd hR
  clear hR
  go_wp2
  go_ret
  exact ⟨g', rfl, hg, HR.out, hB⟩
end Go.Proofs.YtdghgmaoamjnlaaGreat
