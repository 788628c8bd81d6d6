/-
  Layer 4's work: pile.Sorted: the canonical items in order, by the library's slices.SortFunc.
  The document's list in order: one more.
  Items in the making, as an argument; as the program's, as the document's.
  Are items the document's: contract.
  The document's list in order: of any items; and whether items are the document's.
  The document's list in order is the program's: insertion, one behind the other, and any other sort of the same items.
  Layer 4's work: Pile.All; rows of items read as an argument.
  A region that draws its order, by a property of each operation's value: whatever order is drawn, each operation runs where those that it waits for have left values with their properties; at the end all properties hold.
  A region that draws its order, by a property of each operation's value AND A GHOST that the operations carry on: for values that an operation of the region makes and another of the region turns (a fresh slice that is appended to).
  The slots behind a region that draws its order, written out: those that it wrote by what was said of them, the others as they were.
-/
import Derived.Test.YtepigofpcjmddaaSortIt
import Derived.Test.YtepigofpcjmddaaFlat4All
import Derived.Orders
import Derived.WalkKit
import Derived.Deep.QuietTactic
namespace Go.Proofs.Ytepigofpcjmddaa
open Go.RowKit Go.Sort Go.Lib

def encK (x : KI) : List Value := [.float .f64 x.b, .int .i64 x.v]
def cfK (x y : KI) : Int := cmpN x.b x.v y.b y.v
theorem ltK : ltOf cfK = KI.lt := rfl

theorem closure_any (x y : KI) (W : World) : Calls Try.prog 91 #[.agg #[.float .f64 x.b, .int .i64 x.v], .agg #[.float .f64 y.b, .int .i64 y.v]] W fun e w' => e = .returned (.int .i64 (cfK x y)) ∧ ∃ q os', w' = grow (W.drewN q) os' := by
  have hC := fun w => icmp_any x.b y.b x.v y.v w x.ok.1 y.ok.1
  have hcf : cfK x y = cmpN x.b x.v y.b y.v := rfl
  rw [hcf]
  clear hcf
  generalize cmpN x.b x.v y.b y.v = c at *
  go_enter Try.func91, Try.ntmps91
  go_wp2_with (go_at_call 63; refine (hC _).mono ?_; rintro e w' ⟨rfl, hw⟩; replace hw := hw.symm; subst hw)
  go_ret
  exact ⟨rfl, 0, _, by rw [alloc_eq_grow, alloc_eq_grow, alloc_eq_grow, alloc_eq_grow, grow_grow, grow_grow, grow_grow]; rfl⟩

theorem cmpLays (blk off size : Nat) (w : World) : CmpLays Try.prog 91 #[] encK 2 cfK blk off size w :=
  fun _ _ _ _ x y => closure_any x y _

theorem flat0 (d : Array KI) (i : Nat) (h : i < d.size) : (flatK encK 2 d)[i * 2]! = .float .f64 d[i]!.b := by
  rw [get_flatK _ _ _ _ (by omega), Nat.mul_div_cancel _ (by decide), Nat.mul_mod_left]; rfl
theorem flat1 (d : Array KI) (i : Nat) (h : i < d.size) : (flatK encK 2 d)[i * 2 + 1]! = .int .i64 d[i]!.v := by
  rw [get_flatK _ _ _ _ (by omega), show (i * 2 + 1) / 2 = i by omega, show (i * 2 + 1) % 2 = 1 by omega]; rfl
theorem Row.holdsK {w : World} {g cap : Nat} {d : Array KI} (h : Row w g cap d) : HoldsK encK 2 w g 0 d := by
  intro j hj
  rw [size_flatK] at hj
  have hle := h.le
  rw [Nat.zero_add]
  refine ⟨?_, (h.there j (by omega)).2⟩
  show _ = some ((flatK encK 2 d)[j]!)
  rcases Nat.mod_two_eq_zero_or_one j with e | e
  · obtain ⟨i, rfl⟩ : ∃ i, j = i * 2 := ⟨j / 2, by omega⟩
    rw [flat0 d i (by omega)]; exact h.flt i (by omega)
  · obtain ⟨i, rfl⟩ : ∃ i, j = i * 2 + 1 := ⟨j / 2, by omega⟩
    rw [flat1 d i (by omega)]; exact h.val i (by omega)

theorem but_sort (w : World) (g n : Nat) (d : Array KI) (os : Array Obj) : But (fun k => k = g) w (sortWorldK encK 2 w g 0 n d os) := by
  refine ⟨rfl, rfl, rfl, ?_, ?_⟩
  · unfold sortWorldK putRowK
    rw [size_grow, size_putRow]
    exact Nat.le_add_right _ _
  · intro k hk hn
    unfold sortWorldK putRowK
    rw [heap_grow_old _ _ (by rw [size_putRow]; exact hk)]
    unfold putRow mapBlock
    show (w.heap.modify g _)[k]? = _
    rw [Array.getElem?_modify, if_neg (fun e => hn e.symm)]
theorem row_sort {w : World} {g n m : Nat} {d d' : Array KI} (h : Row w g n d) (hn : d.size = n) (hs : d'.size = d.size) (os : Array Obj) : Row (sortWorldK encK 2 w g 0 m d' os) g n d' := by
  have hb := but_sort w g m d' os
  have hl : g < (putRow id (Sort.ahead w m) g 0 (flatK encK 2 d')).heap.size := by rw [size_putRow]; exact h.lt
  have hH0 : Holds id (Sort.ahead w m) g 0 (flatK encK 2 d) := h.holdsK
  have hH : Holds id (sortWorldK encK 2 w g 0 m d' os) g 0 (flatK encK 2 d') :=
    holds_grow id _ os g 0 _ hl (holds_putRow id (Sort.ahead w m) g 0 _ _ hH0 (by rw [size_flatK, size_flatK, hs]))
  refine ⟨Nat.lt_of_lt_of_le h.lt hb.size, by rw [hs]; exact h.le, by rw [hs]; exact h.max, h.cmax, ?_, ?_, ?_⟩
  · intro i hi
    have := (hH (i * 2) (by rw [size_flatK]; omega)).1
    rw [Nat.zero_add, flat0 d' i hi] at this
    exact this
  · intro i hi
    have := (hH (i * 2 + 1) (by rw [size_flatK]; omega)).1
    rw [Nat.zero_add, flat1 d' i hi] at this
    exact this
  · intro j hj
    have := hH j (by rw [size_flatK, hs, hn]; exact hj)
    rw [Nat.zero_add] at this
    exact ⟨by rw [this.1]; rfl, this.2⟩

/-- The canonical items in order. -/
def srt (L : List KI) : List KI := L.mergeSort fun x y => !(KI.lt y x)

theorem sorted_any (a : Option Addr) (n cap : Nat) (P : Nat → Nat) (V : Nat → Int) (w : World) (h : Items w a n P V) (hn : n ≤ 1099511627776) :
    Calls Try.prog 52 #[.slice a n cap] w fun e w' => ∃ g, e = .returned (.slice (some ⟨g, 0, none⟩) n n) ∧ w.heap.size ≤ g ∧ Row w' g n (srt (canArr P V n n).toList).toArray ∧ Below w.heap.size w w' := by
  have hcan := canonical_any a n cap P V w h hn
  have eg : ∀ args w, (callFunc 91 args).run Try.prog w = .ok (.enter 91 args) w := enters_of Try.func91 (by kernel_rfl) rfl
  have hsort : ∀ w1 g, w.heap.size ≤ g → Row w1 g n (canArr P V n n) → Below w.heap.size w w1 → Calls Try.prog 90 #[.slice (some ⟨g, 0, none⟩) n n, .func (.func 91) #[] #[]] w1 fun e w' => e = .returned (.tuple #[]) ∧ Row w' g n (srt (canArr P V n n).toList).toArray ∧ Below w.heap.size w w' := by
    intro w1 g hg hR hB
    have hz := canArr_size P V n n
    have := AnyQ.slices_SortFunc_total Try.sortIt 2 Try.isAgg29 Try.sizeOf29 encK (fun _ => rfl) (fun x v hv => by simp [encK] at hv; rcases hv with rfl | rfl <;> rfl) cfK (by rw [ltK]; exact KI.swo) 91 #[] g 0 n (canArr P V n n) w1 eg (cmpLays g 0 _ w1) hR.holdsK hR.lt (by rw [hz]; omega) (by rw [ltK]; exact KI.total)
    rw [hz] at this
    refine Calls.mono this ?_
    rintro e w' ⟨rfl, m, os, rfl⟩
    rw [ltK]
    refine ⟨rfl, row_sort hR hz (by simp [hz, List.length_mergeSort]) os, hB.trans ((but_sort w1 g m _ os).below hB.size (fun k e => by omega))⟩
  clear h hn eg
  go_enter Try.func52, Try.ntmps52
  go_wp2_with fail
  refine hcan.mono ?_
  rintro e w1 ⟨g, rfl, hg, hR, hB⟩
  go_wp2_with fail
  refine (hsort _ g hg hR hB).mono ?_
  rintro e w2 ⟨rfl, hR2, hB2⟩
  clear hR hB hcan hsort
  go_wp2
  go_ret
  exact ⟨g, rfl, hg, hR2, hB2⟩
end Go.Proofs.Ytepigofpcjmddaa

namespace Go.Proofs.Ytepigofpcjmddaa
open Go.RowKit Go.Sort

/-- One step of the document's insertion, and all of them. -/
def wstep (x : KI) (r : List KI × Bool) (y : KI) : List KI × Bool := if r.2 = false ∧ x.lt y = true then (r.1 ++ [x] ++ [y], true) else (r.1 ++ [y], r.2)
def wst (x : KI) (L : List KI) : List KI × Bool := L.foldl (wstep x) ([], false)
theorem wst_snoc (x : KI) (L : List KI) (y : KI) : wst x (L ++ [y]) = wstep x (wst x L) y := by simp [wst]
def wth (x : KI) (L : List KI) : List KI := if (wst x L).2 = true then (wst x L).1 else (wst x L).1 ++ [x]
theorem wstep_length (x : KI) (r : List KI × Bool) (y : KI) (n : Nat) (h : r.1.length = n + r.2.toNat) : (wstep x r y).1.length = (n + 1) + (wstep x r y).2.toNat := by
  unfold wstep
  split
  case isTrue e => rw [e.1] at h; simp at h; simp [h]
  case isFalse e => simp [h]; omega
theorem wfold_length (x : KI) : ∀ (M : List KI) (r : List KI × Bool) (n : Nat), r.1.length = n + r.2.toNat → (M.foldl (wstep x) r).1.length = n + M.length + (M.foldl (wstep x) r).2.toNat
  | [], r, n, h => h
  | y :: M, r, n, h => by
    have := wfold_length x M _ _ (wstep_length x r y n h)
    rw [List.foldl_cons, this, List.length_cons]; omega
theorem wst_length (x : KI) (L : List KI) : (wst x L).1.length = L.length + (wst x L).2.toNat := by
  have := wfold_length x L ([], false) 0 rfl
  rw [Nat.zero_add] at this
  exact this
theorem wth_length (x : KI) (L : List KI) : (wth x L).length = L.length + 1 := by
  have := wst_length x L
  unfold wth
  split
  case isTrue e => rw [e] at this; exact this
  case isFalse e => rw [Bool.not_eq_true] at e; rw [e] at this; simp [this]

set_option maxHeartbeats 2000000 in
theorem withR_any (a : Option Addr) (cap : Nat) (L : List KI) (x : KI) (w : World) (h : RdR w a L) (hn : L.length ≤ 1000000) :
    Calls Try.prog 10 #[.slice a L.length cap, .agg #[.int .u64 (ni x.b), .int .i64 x.v]] w fun e w' => ∃ g' cap', e = .returned (.slice (some ⟨g', 0, none⟩) (L.length + 1) cap') ∧ w.heap.size ≤ g' ∧ Flat 2 w' g' cap' (L.length + 1) (flatR (wth x L)) ∧ Below w.heap.size w w' := by
  have hx0 : 0 ≤ ni x.b ∧ ni x.b < 18446744073709551616 := by have := x.ok.1; unfold ni; omega
  go_enter Try.func10, Try.ntmps10
  go_wp2
  go_loopw [5, 6, 12] (fun o dn c wr => ∃ (k g' cap' : Nat), c = .int .i64 (k : Int) ∧ k ≤ L.length ∧ dn = .bool (wst x (L.take k)).2 ∧ o = .slice (some ⟨g', 0, none⟩) (wst x (L.take k)).1.length cap' ∧ w.heap.size < g' ∧ Flat 2 wr g' cap' (wst x (L.take k)).1.length (flatR (wst x (L.take k)).1) ∧ Below w.heap.size w wr ∧ wr.cell? ⟨w.heap.size, 0, none⟩ = some (.int .u64 (ni x.b)) ∧ wr.cell? ⟨w.heap.size, 1, none⟩ = some (.int .i64 x.v)) (fun _ _ c _ => L.length - (intOf c).toNat)
  case atStart =>
    exact ⟨0, w.heap.size + 1, 0, rfl, Nat.zero_le _, rfl, rfl, Nat.lt_succ_self _, by have := Flat.new (w.alloc (.cells #[.int .u64 (ni x.b), .int .i64 x.v] 35)) [] 35 2 0 rfl (Nat.zero_le _) (fun _ h => (by cases h)); rw [World.size_alloc] at this; exact this, ((Below.refl _ _).alloc (Nat.le_refl _) _).alloc (by simp) _, by simp, by simp⟩
  case round =>
    obtain ⟨k, g', cap', rfl, hk, rfl, rfl, hg', hF, hB, cx0, cx1⟩ := hrel
    have hl := wst_length x (L.take k)
    have hbl : w.heap.size < wr.heap.size := World.block_lt_of_cell? _ _ cx0
    by_cases hlt : k < L.length
    · have hst : wst x (L.take (k + 1)) = wstep x (wst x (L.take k)) L[k] := by rw [← wst_snoc, List.take_succ_eq_append_getElem hlt]
      obtain ⟨g, off, ha, hglt, h0, h1⟩ := h k hlt
      subst ha
      have hc0 := (hB.cell (p := ⟨g, off + k * 2, none⟩) hglt).trans h0
      have hc1 := (hB.cell (p := ⟨g, off + k * 2 + 1, none⟩) hglt).trans h1
      clear h0 h1
      have hk1 : (k : Int) < (L.length : Int) := by omega
      generalize L[k] = y at *
      have hy0 : 0 ≤ ni y.b ∧ ni y.b < 18446744073709551616 := by have := y.ok.1; unfold ni; omega
      have hcm := hidd (fun w => rcmp4_any (ni x.b) x.v (ni y.b) y.v w hx0.1 hx0.2 hy0.1 hy0.2)
      rw [nf_ni, nf_ni] at hcm
      have hLT : x.lt y = decide (cmpN x.b x.v y.b y.v < 0) := rfl
      have hsl : (wst x (L.take k)).1.length ≤ 1000001 := by rw [hl, List.length_take]; have := Bool.toNat_le (wst x (L.take k)).2; omega
      obtain ⟨r, hr⟩ : ∃ r, wst x (L.take k) = r := ⟨_, rfl⟩
      rw [hr] at hst hF hsl ⊢
      obtain ⟨o, dn⟩ := r
      simp only at hF hsl ⊢
      have hgl := hF.lt
      have FIN : Hid (∀ (o2 : List KI) (d2 : Bool) (g2 cap2 n2 : Nat) (l2 : List Value) (w2 : World), wstep x (o, dn) y = (o2, d2) → n2 = o2.length → l2 = flatR o2 → Flat 2 w2 g2 cap2 n2 l2 → (g2 = g' ∨ wr.heap.size ≤ g2) → But (fun j => j = g') wr w2 →
          ∃ (k_1 g' cap' : Nat), Value.int .i64 ((k : Int) + 1) = .int .i64 (k_1 : Int) ∧ k_1 ≤ L.length ∧ Value.bool d2 = .bool (wst x (List.take k_1 L)).2 ∧ Value.slice (some ⟨g2, 0, none⟩) n2 cap2 = .slice (some ⟨g', 0, none⟩) (wst x (List.take k_1 L)).1.length cap' ∧ w.heap.size < g' ∧
            Flat 2 w2 g' cap' (wst x (List.take k_1 L)).1.length (flatR (wst x (List.take k_1 L)).1) ∧ Below w.heap.size w w2 ∧ w2.cell? ⟨w.heap.size, 0, none⟩ = some (.int .u64 (ni x.b)) ∧ w2.cell? ⟨w.heap.size, 1, none⟩ = some (.int .i64 x.v)) := by
        intro o2 d2 g2 cap2 n2 l2 w2 h1 hn2 hl2 h2 h3 h4
        subst hn2; subst hl2
        have hne : ¬ (w.heap.size = g') := by omega
        refine ⟨k + 1, g2, cap2, rfl, by omega, ?_, ?_, by omega, ?_, hB.trans (h4.below hB.size (fun j e => by omega)), (h4.cell (p := ⟨w.heap.size, 0, none⟩) hbl hne).trans cx0, (h4.cell (p := ⟨w.heap.size, 1, none⟩) hbl hne).trans cx1⟩
        all_goals rw [hst, h1]
        exact h2
      have HF := hidd hF
      have HSL := hidd hsl
      clear hl hr hst hF hx0 hy0 hsl
      cases dn
      · have hbx : But (fun _ => False) wr (wr.alloc (.cells #[.int .u64 (ni y.b), .int .i64 y.v] 35)) := (But.refl _ _).alloc _
        have d0 := (hbx.cell (p := ⟨w.heap.size, 0, none⟩) hbl id).trans cx0
        have d1 := (hbx.cell (p := ⟨w.heap.size, 1, none⟩) hbl id).trans cx1
        clear hbx d0 d1
        go_wp2_with fail
        refine (hcm.out _).mono ?_
        rintro e w3 ⟨rfl, hb3⟩
        have hB3 : But (fun _ => False) wr w3 := ((But.refl _ _).alloc _).trans (But.of_below hb3)
        have hz3 : wr.heap.size < w3.heap.size := by have := hb3.size; simp at this; omega
        have y0 : w3.cell? ⟨wr.heap.size, 0, none⟩ = some (.int .u64 (ni y.b)) := by rw [hb3.cell (p := ⟨wr.heap.size, 0, none⟩) (by simp)]; simp
        have y1 : w3.cell? ⟨wr.heap.size, 1, none⟩ = some (.int .i64 y.v) := by rw [hb3.cell (p := ⟨wr.heap.size, 1, none⟩) (by simp)]; simp
        have x0 := (hB3.cell (p := ⟨w.heap.size, 0, none⟩) hbl id).trans cx0
        have x1 := (hB3.cell (p := ⟨w.heap.size, 1, none⟩) hbl id).trans cx1
        cases hc : x.lt y
        · have hst : wstep x (o, false) y = (o ++ [y], false) := by unfold wstep; rw [if_neg (by rw [hc]; simp)]
          have hcc : decide (cmpN x.b x.v y.b y.v < 0) = false := hLT.symm.trans hc
          have HH := hidd hst
          clear hst hc hLT hcm hb3
          generalize cmpN x.b x.v y.b y.v = cc at *
          go_wp2_with (at_builtin; refine wpList_flat plainR _ rfl (.tmp 28) (.tmp 30) rfl g' cap' _ (flatR o) rfl (HF.out.but (S := fun _ => False) (hB3.alloc _) id) _ rfl 1 _ (src_two _ Try.underlying26 _ (.int .u64 (ni y.b)) (.int .i64 y.v) (by simp) (by simp) rfl rfl) (by have := HSL.out; omega) ?_; intro g2 cap2 w2 hF2 hb2 hg2)
          refine ⟨FIN.out _ _ g2 cap2 _ _ w2 HH.out (by simp) (by rw [flatR_append]; rfl) hF2 (by rcases hg2 with e | e; exact .inl e; simp at e; exact .inr (by omega)) (((hB3.alloc _).mono (fun _ _ e => e.elim)).trans hb2), ?_⟩
          simp [intOf]; omega
        · have hst : wstep x (o, false) y = (o ++ [x] ++ [y], true) := by unfold wstep; rw [if_pos ⟨rfl, hc⟩]
          have hcc : cmpN x.b x.v y.b y.v < 0 := of_decide_eq_true (hLT.symm.trans hc)
          have HH := hidd hst
          clear hst hc hLT hcm hb3
          generalize cmpN x.b x.v y.b y.v = cc at *
          go_wp2_with (at_builtin; first
            | (refine wpList_flat plainR _ rfl (.tmp 24) (.tmp 26) rfl g' cap' _ (flatR o) rfl (HF.out.but (S := fun _ => False) (hB3.alloc _) id) _ rfl 1 _ (src_two _ Try.underlying26 _ (.int .u64 (ni x.b)) (.int .i64 x.v) (by simp) (by simp) rfl rfl) (by have := HSL.out; omega) ?_
               intro g2 cap2 w2 hF2 hb2 hg2
               have hB2 : But (fun j => j = g') wr w2 := ((hB3.alloc _).mono (fun _ _ e => e.elim)).trans hb2
               have hne : ¬ (wr.heap.size = g') := by omega
               have y0' : w2.cell? ⟨wr.heap.size, 0, none⟩ = some (.int .u64 (ni y.b)) := by rw [hb2.cell (p := ⟨wr.heap.size, 0, none⟩) (by simp; omega) hne, (((But.refl (fun _ => False) w3).alloc _).cell (p := ⟨wr.heap.size, 0, none⟩) hz3 id)]; exact y0
               have y1' : w2.cell? ⟨wr.heap.size, 1, none⟩ = some (.int .i64 y.v) := by rw [hb2.cell (p := ⟨wr.heap.size, 1, none⟩) (by simp; omega) hne, (((But.refl (fun _ => False) w3).alloc _).cell (p := ⟨wr.heap.size, 1, none⟩) hz3 id)]; exact y1
               have hz2 : wr.heap.size < w2.heap.size := World.block_lt_of_cell? _ _ y0'
               have HF2 := hidd hF2
               have HG2 := hidd hg2
               clear hF2 hg2 hb2)
            | (refine wpList_flat plainR _ rfl (.tmp 28) (.tmp 30) rfl g2 cap2 _ _ rfl (HF2.out.but (S := fun _ => False) ((But.refl _ _).alloc _) id) _ rfl 1 _ (src_two _ Try.underlying26 _ (.int .u64 (ni y.b)) (.int .i64 y.v) (by simp) (by simp) rfl rfl) (by have := HSL.out; omega) ?_
               intro g4 cap4 w4 hF4 hb4 hg4))
          have hs3 : wr.heap.size ≤ w3.heap.size := Nat.le_of_lt hz3
          have hg2 := HG2.out
          rw [World.size_alloc] at hg2 hg4
          refine ⟨FIN.out _ _ g4 cap4 _ _ w4 HH.out (by simp) (by rw [flatR_append, flatR_append]; rfl) hF4 (by omega) (hB2.then (T := fun j => j = g2) (((But.refl _ _).alloc _).trans hb4) (fun i hi e => by omega)), ?_⟩
          simp [intOf]; omega
      · have hst : wstep x (o, true) y = (o ++ [y], true) := by unfold wstep; rw [if_neg (by simp)]
        have HH := hidd hst
        clear hst hLT hcm
        go_wp2_with (at_builtin; refine wpList_flat plainR _ rfl (.tmp 28) (.tmp 30) rfl g' cap' _ (flatR o) rfl (HF.out.but (S := fun _ => False) (((But.refl _ _).alloc _).alloc _) id) _ rfl 1 _ (src_two _ Try.underlying26 _ (.int .u64 (ni y.b)) (.int .i64 y.v) (by simp) (by simp) rfl rfl) (by have := HSL.out; omega) ?_; intro g2 cap2 w2 hF2 hb2 hg2)
        refine ⟨FIN.out _ _ g2 cap2 _ _ w2 HH.out (by simp) (by rw [flatR_append]; rfl) hF2 (by rcases hg2 with e | e; exact .inl e; simp at e; exact .inr (by omega)) (((((But.refl _ _).alloc _).alloc _)).trans hb2), ?_⟩
        simp [intOf]; omega
    · have hkL : k = L.length := by omega
      subst hkL
      rw [List.take_length] at hF hl ⊢
      have hsl : (wst x L).1.length ≤ 1000001 := by rw [hl]; have := Bool.toNat_le (wst x L).2; omega
      cases hd : (wst x L).2
      · have hw : wth x L = (wst x L).1 ++ [x] := by unfold wth; rw [hd]; rfl
        have hl2 : (wst x L).1.length = L.length := by rw [hl, hd]; rfl
        have HW := hidd hw
        have HL := hidd hl2
        have HF := hidd hF
        have HSL := hidd hsl
        have hgl := hF.lt
        clear hw hl2 hF hsl hl hd hx0
        generalize (wst x L).1 = o at *
        go_wp2_with (at_builtin; refine wpList_flat plainR _ rfl (.tmp 35) (.tmp 37) rfl g' cap' _ (flatR o) rfl (HF.out.but (S := fun _ => False) ((But.refl _ _).alloc _) id) _ rfl 1 _ (src_two _ Try.underlying26 _ (.int .u64 (ni x.b)) (.int .i64 x.v) (by simp) (by simp) rfl rfl) (by have := HSL.out; omega) ?_; intro g2 cap2 w2 hF2 hb2 hg2)
        go_ret
        rw [HL.out] at hF2 ⊢
        rw [World.size_alloc] at hg2
        refine ⟨g2, cap2, rfl, by have := hB.size; omega, ?_, hB.trans ((((But.refl _ _).alloc _).trans hb2).below hB.size (fun j e => by omega))⟩
        rw [HW.out, flatR_append]; exact hF2
      · have hw : wth x L = (wst x L).1 := by unfold wth; rw [hd]; rfl
        have hl2 : (wst x L).1.length = L.length + 1 := by rw [hl, hd]; rfl
        have HW := hidd hw
        have HL := hidd hl2
        have HF := hidd hF
        clear hw hl2 hF hsl hl hd hx0
        generalize (wst x L).1 = o at *
        go_wp2
        go_ret
        refine ⟨g', cap', ?_, by omega, ?_, hB⟩
        · rw [HL.out]; rfl
        · rw [HW.out, ← HL.out]; exact HF.out
theorem with_any (g cap : Nat) (L : List KI) (x : KI) (w : World) (h : Flat 2 w g cap L.length (flatR L)) (hn : L.length ≤ 1000000) :
    Calls Try.prog 10 #[.slice (some ⟨g, 0, none⟩) L.length cap, .agg #[.int .u64 (ni x.b), .int .i64 x.v]] w fun e w' => ∃ g' cap', e = .returned (.slice (some ⟨g', 0, none⟩) (L.length + 1) cap') ∧ w.heap.size ≤ g' ∧ Flat 2 w' g' cap' (L.length + 1) (flatR (wth x L)) ∧ Below w.heap.size w w' :=
  withR_any _ cap L x w (RdR.of_flat h) hn
end Go.Proofs.Ytepigofpcjmddaa

namespace Go.Proofs.Ytepigofpcjmddaa
open Go.RowKit Go.Sort

/-- Items in the making, as an argument. -/
def Raws (w : World) (a : Option Addr) (n : Nat) (K M : Nat → Int) : Prop :=
  ∀ i, i < n → ∃ g off, a = some ⟨g, off, none⟩ ∧ g < w.heap.size ∧ w.cell? ⟨g, off + i * 2, none⟩ = some (.int .u64 (K i)) ∧ w.cell? ⟨g, off + i * 2 + 1, none⟩ = some (.int .i64 (M i)) ∧ 0 ≤ K i ∧ K i < 18446744073709551616
theorem Raws.below {w w' : World} {a : Option Addr} {n : Nat} {K M : Nat → Int} (h : Raws w a n K M) (hb : Below w.heap.size w w') : Raws w' a n K M := fun i hi => by
  obtain ⟨g, off, h1, h2, h3, h4, h5⟩ := h i hi
  exact ⟨g, off, h1, Nat.lt_of_lt_of_le h2 hb.size, by rw [hb.cell (p := ⟨g, off + i * 2, none⟩) h2]; exact h3, by rw [hb.cell (p := ⟨g, off + i * 2 + 1, none⟩) h2]; exact h4, h5⟩
theorem Raws.but {S : Nat → Prop} {w w' : World} {a : Option Addr} {n : Nat} {K M : Nat → Int} (h : Raws w a n K M) (hb : But S w w') (hS : ∀ k, inB a k → ¬ S k) : Raws w' a n K M := fun i hi => by
  obtain ⟨g, off, h1, h2, h3, h4, h5⟩ := h i hi
  have hn : ¬ S g := hS g ⟨_, h1, rfl⟩
  exact ⟨g, off, h1, Nat.lt_of_lt_of_le h2 hb.size, by rw [hb.cell (p := ⟨g, off + i * 2, none⟩) h2 hn]; exact h3, by rw [hb.cell (p := ⟨g, off + i * 2 + 1, none⟩) h2 hn]; exact h4, h5⟩

/-- The items that are made of them. -/
def rawL (K V : Nat → Int) (n : Nat) : List KI := (List.range n).map (kiOf K V)
theorem rawL_length (K V : Nat → Int) (n : Nat) : (rawL K V n).length = n := by simp [rawL]
theorem rawL_succ (K V : Nat → Int) (n : Nat) : rawL K V (n + 1) = rawL K V n ++ [kiOf K V n] := by simp [rawL, List.range_succ]
def kt (x : KI) : It := (x.b, x.v)
def kts (L : List KI) : List It := L.map kt
theorem kts_length (L : List KI) : (kts L).length = L.length := by simp [kts]
theorem kts_append (L M : List KI) : kts (L ++ M) = kts L ++ kts M := by simp [kts]
end Go.Proofs.Ytepigofpcjmddaa

namespace Go.Proofs.Ytepigofpcjmddaa
open Go.RowKit Go.Sort

/-- Two rows hold the same items. -/
theorem isV_same (x : KI) : isV x.b x.v (ni x.b) x.v = 0 := if_pos ⟨rfl, rfl⟩
set_option maxHeartbeats 1000000 in
theorem areR_any (g1 c1 : Nat) (a2 : Option Addr) (c2 n : Nat) (L : List KI) (w : World) (h1 : Row w g1 c1 L.toArray) (h2 : RdR w a2 L) (hL : L.length = n) :
    Calls Try.prog 18 #[.slice (some ⟨g1, 0, none⟩) n c1, .slice a2 n c2] w fun e w' => e = .returned (.int .i64 0) ∧ Below w.heap.size w w' := by
  have hl1 := h1.lt
  have hnn : n ≤ 1099511627776 := by have := h1.max; simpa [hL] using this
  go_enter Try.func18, Try.ntmps18
  go_wp2
  go_loopw [13] (fun c wr => ∃ (k : Nat), c = .int .i64 (k : Int) ∧ k ≤ n ∧ Below w.heap.size w wr) (fun c _ => n - (intOf c).toNat)
  case atStart => exact ⟨0, rfl, Nat.zero_le _, Below.refl _ _⟩
  case round =>
    obtain ⟨k, rfl, hk, hB⟩ := hrel
    by_cases hlt : k < n
    · have hkl : k < L.length := by omega
      have e0 := (hB.cell (p := ⟨g1, k * 2, none⟩) hl1).trans (h1.flt k (by simpa using hkl))
      have e1 := (hB.cell (p := ⟨g1, k * 2 + 1, none⟩) hl1).trans (h1.val k (by simpa using hkl))
      obtain ⟨g2, o2, ha2, hl2, hr0, hr1⟩ := h2 k hkl
      subst ha2
      have f0 := (hB.cell (p := ⟨g2, o2 + k * 2, none⟩) hl2).trans hr0
      have f1 := (hB.cell (p := ⟨g2, o2 + k * 2 + 1, none⟩) hl2).trans hr1
      clear hr0 hr1
      have hx : L.toArray[k]! = L[k] := by rw [getElem!_pos L.toArray k (by simpa using hkl)]; rfl
      rw [hx] at e0 e1
      generalize L[k] = x at *
      have his := hidd (fun w => is_any x.b x.v (ni x.b) x.v w)
      rw [isV_same] at his
      have k1 : (k : Int) < (n : Int) := by omega
      clear hx
      go_wp2
      go_region_with (go_at_call 15; refine (his.out _).mono ?_; rintro e w3 ⟨rfl, hb3⟩)
      all_goals go_wp2
      all_goals exact ⟨⟨k + 1, rfl, by omega, hB.trans ((((But.refl (fun _ => False) wr).drew).trans (But.of_below hb3)).below hB.size (fun _ e => e.elim))⟩, by simp [intOf]; omega⟩
    · have hkn : k = n := by omega
      subst hkn
      go_wp2
      go_ret
      exact ⟨rfl, hB⟩
theorem are_any (g1 c1 g2 c2 n : Nat) (L : List KI) (w : World) (h1 : Row w g1 c1 L.toArray) (h2 : Flat 2 w g2 c2 n (flatR L)) (hL : L.length = n) :
    Calls Try.prog 18 #[.slice (some ⟨g1, 0, none⟩) n c1, .slice (some ⟨g2, 0, none⟩) n c2] w fun e w' => e = .returned (.int .i64 0) ∧ Below w.heap.size w w' :=
  areR_any g1 c1 _ c2 n L w h1 (RdR.of_flat (by rw [hL]; exact h2)) hL
end Go.Proofs.Ytepigofpcjmddaa

namespace Go.Proofs.Ytepigofpcjmddaa
open Go.RowKit Go.Sort

/-- Items in the making, as the document's: canonical or not. -/
def RawAt (w : World) (g : Nat) (n : Nat) (P V : Nat → Int) : Prop :=
  g < w.heap.size ∧ ∀ i, i < n → w.cell? ⟨g, i * 2, none⟩ = some (.int .u64 (P i)) ∧ w.cell? ⟨g, i * 2 + 1, none⟩ = some (.int .i64 (V i)) ∧ 0 ≤ P i ∧ P i < 18446744073709551616

def rsrt (P V : Nat → Int) (n : Nat) : List KI := (List.range n).foldl (fun L i => wth (kiOf P V i) L) []
theorem rsrt_succ (P V : Nat → Int) (n : Nat) : rsrt P V (n + 1) = wth (kiOf P V n) (rsrt P V n) := by simp [rsrt, List.range_succ]
theorem rsrt_length (P V : Nat → Int) : ∀ n, (rsrt P V n).length = n
  | 0 => rfl
  | n + 1 => by rw [rsrt_succ, wth_length, rsrt_length P V n]


end Go.Proofs.Ytepigofpcjmddaa

namespace Go.Proofs.Ytepigofpcjmddaa
open Go.RowKit Go.Sort

def ins (x : KI) : List KI → List KI
  | [] => [x]
  | y :: L => if x.lt y = true then x :: y :: L else y :: ins x L
def InOrder (L : List KI) : Prop := L.Pairwise fun a b => b.lt a = false

theorem ins_no {x y : KI} {L : List KI} (h : x.lt y = false) : ins x (y :: L) = y :: ins x L := by rw [ins, if_neg (by rw [h]; simp)]
theorem ins_yes {x y : KI} {L : List KI} (h : x.lt y = true) : ins x (y :: L) = x :: y :: L := by rw [ins, if_pos h]
theorem wfold_done (x : KI) : ∀ (L o : List KI), L.foldl (wstep x) (o, true) = (o ++ L, true)
  | [], o => by simp
  | y :: L, o => by
    rw [List.foldl_cons, show wstep x (o, true) y = (o ++ [y], true) by unfold wstep; rw [if_neg (by simp)], wfold_done x L]
    simp
theorem wfold_ins (x : KI) : ∀ (L o : List KI), (if (L.foldl (wstep x) (o, false)).2 = true then (L.foldl (wstep x) (o, false)).1 else (L.foldl (wstep x) (o, false)).1 ++ [x]) = o ++ ins x L
  | [], o => rfl
  | y :: L, o => by
    rw [List.foldl_cons]
    cases hc : x.lt y
    · rw [show wstep x (o, false) y = (o ++ [y], false) by unfold wstep; rw [if_neg (by rw [hc]; simp)], wfold_ins x L]
      rw [ins_no hc]
      simp
    · rw [show wstep x (o, false) y = (o ++ [x] ++ [y], true) by unfold wstep; rw [if_pos ⟨rfl, hc⟩], wfold_done]
      rw [ins_yes hc]
      simp
theorem wth_ins (x : KI) (L : List KI) : wth x L = ins x L := by
  have := wfold_ins x L []
  rw [List.nil_append] at this
  exact this
theorem ins_perm (x : KI) : ∀ L, (ins x L).Perm (x :: L)
  | [] => List.Perm.refl _
  | y :: L => by
    unfold ins
    split
    · exact List.Perm.refl _
    · exact ((ins_perm x L).cons y).trans (List.Perm.swap x y L)
theorem ins_order (x : KI) : ∀ L, InOrder L → InOrder (ins x L)
  | [], _ => List.pairwise_singleton _ _
  | y :: L, h => by
    obtain ⟨h1, h2⟩ := List.pairwise_cons.1 h
    unfold ins
    split
    case isTrue e =>
      refine List.pairwise_cons.2 ⟨fun z hz => ?_, h⟩
      rcases List.mem_cons.1 hz with rfl | hz
      · exact Hp.asym KI.swo e
      · exact KI.swo.ntrans _ _ _ (h1 z hz) (Hp.asym KI.swo e)
    case isFalse e =>
      refine List.pairwise_cons.2 ⟨fun z hz => ?_, ins_order x L h2⟩
      rcases List.mem_cons.1 ((ins_perm x L).mem_iff.1 hz) with rfl | hz
      · exact Bool.not_eq_true _ ▸ e
      · exact h1 z hz
/-- One order alone. -/
theorem order_eq : ∀ (L M : List KI), L.Perm M → InOrder L → InOrder M → L = M
  | [], M, hp, _, _ => by rw [hp.nil_eq]
  | x :: L, [], hp, _, _ => by have := hp.length_eq; simp at this
  | x :: L, y :: M, hp, hL, hM => by
    obtain ⟨a1, a2⟩ := List.pairwise_cons.1 hL
    obtain ⟨b1, b2⟩ := List.pairwise_cons.1 hM
    have hxy : x = y := by
      rcases List.mem_cons.1 (hp.mem_iff.1 List.mem_cons_self) with e | e
      · exact e
      · rcases List.mem_cons.1 (hp.mem_iff.2 (List.mem_cons_self (a := y) (l := M))) with e' | e'
        · exact e'.symm
        · exact KI.total x y (b1 x e) (a1 y e')
    subst hxy
    rw [order_eq L M (List.Perm.cons_inv hp) a2 b2]
theorem srt_order (L : List KI) : InOrder (srt L) := by
  have := List.pairwise_mergeSort (le := fun x y => !(KI.lt y x)) (fun a b c h1 h2 => by
    simp only [Bool.not_eq_true'] at *
    exact KI.swo.ntrans _ _ _ h2 h1) (fun a b => by
    cases h : KI.lt b a
    · simp
    · simp [Hp.asym KI.swo h]) L
  exact this.imp (fun h => by simpa using h)
theorem srt_perm (L : List KI) : (srt L).Perm L := List.mergeSort_perm _ _
theorem rsrt_order (P V : Nat → Int) : ∀ n, InOrder (rsrt P V n)
  | 0 => List.Pairwise.nil
  | n + 1 => by rw [rsrt_succ, wth_ins]; exact ins_order _ _ (rsrt_order P V n)
theorem rsrt_perm (P V : Nat → Int) : ∀ n, (rsrt P V n).Perm ((List.range n).map (kiOf P V))
  | 0 => List.Perm.refl _
  | n + 1 => by
    rw [rsrt_succ, wth_ins, List.range_succ, List.map_append]
    refine (ins_perm _ _).trans (((rsrt_perm P V n).cons _).trans ?_)
    exact (List.perm_append_singleton _ _).symm
/-- Whatever sorts the same items gives the document's list. -/
theorem srt_rsrt (P V : Nat → Int) (n : Nat) (L : List KI) (h : L.Perm ((List.range n).map (kiOf P V))) : srt L = rsrt P V n :=
  order_eq _ _ ((srt_perm L).trans (h.trans (rsrt_perm P V n).symm)) (srt_order L) (rsrt_order P V n)
theorem canArr_list (P V : Nat → Int) (n : Nat) : (canArr (fun i => nf (P i)) V n n).toList = (List.range n).map (kiOf P V) := by
  refine List.ext_getElem (by simp [canArr]) ?_
  intro i h1 h2
  have hi : i < n := by simpa using h2
  simp [canArr, hi, kiOf]
end Go.Proofs.Ytepigofpcjmddaa

namespace Go.Proofs.Ytepigofpcjmddaa
open Go.RowKit Go.Sort

theorem Row.items {w : World} {g cap : Nat} {d : Array KI} (h : Row w g cap d) : Items w (some ⟨g, 0, none⟩) d.size (fun i => d[i]!.b) (fun i => d[i]!.v) :=
  fun i hi => ⟨g, rfl, h.lt, h.flt i hi, h.val i hi, d[i]!.ok.1⟩
theorem all_any (b g : Nat) (d : Array KI) (w : World) (h : HeapAt w b g d) :
    Calls Try.prog 19 #[.pointer (some ⟨b, 0, none⟩)] w fun e w' => ∃ g', e = .returned (.slice (some ⟨g', 0, none⟩) d.size d.size) ∧ w.heap.size ≤ g' ∧ Row w' g' d.size (srt d.toList).toArray ∧ Below w.heap.size w w' := by
  obtain ⟨cap, hP⟩ := h.pile
  have hc := hP.hd
  have hbl := hP.blt
  have hS := hidd (sorted_any (some ⟨g, 0, none⟩) d.size cap _ _ w hP.row.items hP.row.max)
  rw [canArr_self] at hS
  generalize (srt d.toList).toArray = s at *
  generalize d.size = n at *
  clear h hP
  go_enter Try.func19, Try.ntmps19
  go_wp2_with fail
  refine hS.out.mono ?_
  rintro e w1 ⟨g', rfl, hg, hR, hB⟩
  have HR := hidd hR
  clear hR
  go_wp2
  go_ret
  exact ⟨g', rfl, hg, HR.out, hB⟩
end Go.Proofs.Ytepigofpcjmddaa

namespace Go.Proofs.Ytepigofpcjmddaa.Reg
open Go

/-- What an operation comes to: a value, or a call that returns. -/
def Outcome (P : Program) (K : Value → World → Prop) : Result Next → Prop
  | .ok (.value v) w' => K v w'
  | .ok .skip w' => K undef w'
  | .ok (.enter f args) w' => Calls P f args w' fun e w'' => ∃ v, e = .returned v ∧ K v w''
  | _ => False

theorem outcome_value {P : Program} {K : Value → World → Prop} {v : Value} {w : World} (h : K v w) : Outcome P K (.ok (.value v) w) := h

theorem outcome_wp {P : Program} {o : Oper} {a : Act} {w : World} {K : Value → World → Prop} {N : Act → World → Prop} {Q : Exit → Act → World → Prop}
    (h : Outcome P K ((execOp a.eval o).run P w)) (hn : ∀ v w', K v w' → N (a.put o.dst v) w') : o.wp P a w N Q := by
  unfold Oper.wp
  generalize (execOp a.eval o).run P w = r at *
  cases r with
  | ok n w' =>
    cases n <;> simp only [Outcome, Oper.upon] at h ⊢
    case value v => exact hn _ _ h
    case skip => exact hn _ _ h
    case enter f args =>
      refine Calls.mono h ?_
      rintro e w'' ⟨v, rfl, hk⟩
      exact hn _ _ hk
  | halt x w' => simp [Outcome] at h

/-- The edges lead back, and no two operations write one slot; every slot is there. -/
def fineB (ops : Array Oper) (n : Nat) : Bool :=
  (List.range ops.size).all fun i => match ops[i]? with
    | none => true
    | some o => o.after.all (fun e => decide (e.on < i) || !Region.binds .any e) &&
      (match o.dst with
       | none => true
       | some t => decide (t < n) && (List.range ops.size).all fun j => decide (j = i) || ((ops[j]?).bind (·.dst)) != some t)

theorem fine_back {ops : Array Oper} {n i : Nat} {o : Oper} (h : fineB ops n = true) (ho : ops[i]? = some o) : ∀ e ∈ o.after, Region.binds .any e = true → e.on < i := by
  have hi : i < ops.size := by
    rcases Nat.lt_or_ge i ops.size with h' | h'
    · exact h'
    · rw [Array.getElem?_eq_none h'] at ho; cases ho
  have := List.all_eq_true.1 h i (List.mem_range.2 hi)
  simp only [ho, Bool.and_eq_true] at this
  intro e he hb
  have h2 := this.1
  rw [Array.all_eq_true_iff_forall_mem] at h2
  have h3 := h2 e he
  rw [hb] at h3
  simpa using h3

theorem fine_dst {ops : Array Oper} {n i j t : Nat} {o o' : Oper} (h : fineB ops n = true) (ho : ops[i]? = some o) (ho' : ops[j]? = some o') (hd : o.dst = some t) (hd' : o'.dst = some t) : j = i := by
  have hi : i < ops.size := by
    rcases Nat.lt_or_ge i ops.size with h' | h'
    · exact h'
    · rw [Array.getElem?_eq_none h'] at ho; cases ho
  have hj : j < ops.size := by
    rcases Nat.lt_or_ge j ops.size with h' | h'
    · exact h'
    · rw [Array.getElem?_eq_none h'] at ho'; cases ho'
  have := List.all_eq_true.1 h i (List.mem_range.2 hi)
  simp only [ho, hd, Bool.and_eq_true] at this
  have h2 := List.all_eq_true.1 this.2.2 j (List.mem_range.2 hj)
  simp only [ho', Option.bind_some, hd'] at h2
  simpa using h2

theorem fine_lt {ops : Array Oper} {n i t : Nat} {o : Oper} (h : fineB ops n = true) (ho : ops[i]? = some o) (hd : o.dst = some t) : t < n := by
  have hi : i < ops.size := by
    rcases Nat.lt_or_ge i ops.size with h' | h'
    · exact h'
    · rw [Array.getElem?_eq_none h'] at ho; cases ho
  have := List.all_eq_true.1 h i (List.mem_range.2 hi)
  simp only [ho, hd, Bool.and_eq_true] at this
  simpa using this.2.1

section
variable (P : Program) (ops : Array Oper) (a0 : Act) (R : Nat → Value → World → Prop) (Pres : World → World → Prop) (Inv : Array Bool → World → Prop)

/-- Where the operations that are listed have come up: their slots have their properties, the others are as at the start. -/
structure Fits (L : Array Bool) (a : Act) (w : World) : Prop where
  defers : a.defers = a0.defers
  size : a.tmps.size = a0.tmps.size
  lsize : L.size = ops.size
  val : ∀ j o t, ops[j]? = some o → L.getD j false = true → o.dst = some t → R j (a.eval (.tmp t)) w
  old : ∀ t, (∀ j o, ops[j]? = some o → L.getD j false = true → o.dst ≠ some t) → a.eval (.tmp t) = a0.eval (.tmp t)
  closed : ∀ j o, ops[j]? = some o → L.getD j false = true → ∀ e ∈ o.after, Region.binds .any e = true → L.getD e.on false = true

/-- The slots as a plain function. -/
structure At (L : Array Bool) (ev : Operand → Value) (w : World) : Prop where
  val : ∀ j o t, ops[j]? = some o → L.getD j false = true → o.dst = some t → R j (ev (.tmp t)) w
  old : ∀ t, (∀ j o, ops[j]? = some o → L.getD j false = true → o.dst ≠ some t) → ev (.tmp t) = a0.eval (.tmp t)
  closed : ∀ j o, ops[j]? = some o → L.getD j false = true → ∀ e ∈ o.after, Region.binds .any e = true → L.getD e.on false = true
  const : ∀ v, ev (.const v) = v
  func : ∀ f, ev (.func f) = .func (.func f) #[] #[]
  global : ∀ g, ev (.global g) = .pointer (some ⟨g, 0, none⟩)

/-- What is asked of one operation. -/
def StepAt (i : Nat) (o : Oper) : Prop :=
  ∀ (L : Array Bool) (ev : Operand → Value) (w : World), Inv L w → L.getD i true = false → (∀ e ∈ o.after, Region.binds .any e = true → L.getD e.on false = true) → At ops a0 R L ev w →
    match o.guard with
    | none => Outcome P (fun v w' => R i v w' ∧ Pres w w' ∧ Inv (L.setIfInBounds i true) w') ((execOp ev o).run P w)
    | some (g, want) => (∃ og t b, ops[g]? = some og ∧ og.dst = some t ∧ ev (.tmp t) = .bool b ∧
        if b = want then Outcome P (fun v w' => R i v w' ∧ Pres w w' ∧ Inv (L.setIfInBounds i true) w') ((execOp ev o).run P w)
        else R i undef w ∧ Inv (L.setIfInBounds i true) w) ∨
      ∃ og t, ops[g]? = some og ∧ og.dst = some t ∧ ev (.tmp t) = undef ∧ R i undef w ∧ Inv (L.setIfInBounds i true) w

def AllSteps : Nat → List Oper → Prop
  | _, [] => True
  | k, o :: l => StepAt P ops a0 R Pres Inv k o ∧ AllSteps (k + 1) l
end

section
variable {P : Program} {ops : Array Oper} {a0 : Act} {R : Nat → Value → World → Prop} {Pres : World → World → Prop} {Inv : Array Bool → World → Prop}

theorem StepAt.plain {i : Nat} {o : Oper} (hg : o.guard = none)
    (h : ∀ (L : Array Bool) (ev : Operand → Value) (w : World), Inv L w → L.getD i true = false → (∀ e ∈ o.after, Region.binds .any e = true → L.getD e.on false = true) → At ops a0 R L ev w →
      Outcome P (fun v w' => R i v w' ∧ Pres w w' ∧ Inv (L.setIfInBounds i true) w') ((execOp ev o).run P w)) : StepAt P ops a0 R Pres Inv i o := by
  intro L ev w hI hk hp hA
  rw [hg]; exact h L ev w hI hk hp hA
theorem StepAt.guarded {i g : Nat} {want : Bool} {o : Oper} (hg : o.guard = some (g, want))
    (h : ∀ (L : Array Bool) (ev : Operand → Value) (w : World), Inv L w → L.getD i true = false → (∀ e ∈ o.after, Region.binds .any e = true → L.getD e.on false = true) → At ops a0 R L ev w →
      ∃ og t b, ops[g]? = some og ∧ og.dst = some t ∧ ev (.tmp t) = .bool b ∧
        if b = want then Outcome P (fun v w' => R i v w' ∧ Pres w w' ∧ Inv (L.setIfInBounds i true) w') ((execOp ev o).run P w)
        else R i undef w ∧ Inv (L.setIfInBounds i true) w) : StepAt P ops a0 R Pres Inv i o := by
  intro L ev w hI hk hp hA
  rw [hg]; exact .inl (h L ev w hI hk hp hA)
/-- A guard that is not reached itself. -/
theorem StepAt.unreached {i g : Nat} {want : Bool} {o : Oper} (hg : o.guard = some (g, want))
    (h : ∀ (L : Array Bool) (ev : Operand → Value) (w : World), Inv L w → L.getD i true = false → (∀ e ∈ o.after, Region.binds .any e = true → L.getD e.on false = true) → At ops a0 R L ev w →
      ∃ og t, ops[g]? = some og ∧ og.dst = some t ∧ ev (.tmp t) = undef ∧ R i undef w ∧ Inv (L.setIfInBounds i true) w) : StepAt P ops a0 R Pres Inv i o := by
  intro L ev w hI hk hp hA
  rw [hg]; exact .inr (h L ev w hI hk hp hA)
/-- What is not there says neither yes nor no. -/
theorem yielded_undef {ops : Array Oper} {tmps : Array Value} {g t : Nat} {og : Oper} (hog : ops[g]? = some og) (hd : og.dst = some t) (h : tmps.getD t undef = undef) : yielded ops tmps g = none := by
  unfold yielded
  rw [hog]
  simp only [Option.bind_some, hd]
  rw [Array.getD_eq_getD_getElem?] at h
  cases hx : tmps[t]? with
  | none => rfl
  | some x => rw [hx] at h; simp only [Option.getD_some] at h; subst h; rfl

theorem AllSteps.at : ∀ (l : List Oper) (k : Nat), AllSteps P ops a0 R Pres Inv k l → ∀ (i : Nat) (o : Oper), l[i]? = some o → StepAt P ops a0 R Pres Inv (k + i) o
  | [], _, _, i, o, h => by simp at h
  | x :: l, k, hs, 0, o, h => by simp at h; subst h; exact hs.1
  | x :: l, k, hs, i + 1, o, h => by
    have := AllSteps.at l (k + 1) hs.2 i o (by simpa using h)
    rw [show k + (i + 1) = k + 1 + i by omega]; exact this

theorem Fits.at {L : Array Bool} {a : Act} {w : World} (h : Fits ops a0 R L a w) : At ops a0 R L a.eval w :=
  ⟨h.val, h.old, h.closed, fun _ => rfl, fun _ => rfl, fun _ => rfl⟩

theorem eval_put_same {a : Act} {t : Nat} {v : Value} (h : t < a.tmps.size) : (a.put (some t) v).eval (.tmp t) = v := by
  simp [Act.put, Act.eval, h]
theorem eval_put_other {a : Act} {t u : Nat} {v : Value} (h : t ≠ u) : (a.put (some t) v).eval (.tmp u) = a.eval (.tmp u) := by
  simp [Act.put, Act.eval, Array.getElem?_setIfInBounds_ne h]
theorem size_put {a : Act} {d : Option Tmp} {v : Value} : (a.put d v).tmps.size = a.tmps.size := by
  cases d <;> simp [Act.put]
theorem defers_put {a : Act} {d : Option Tmp} {v : Value} : (a.put d v).defers = a.defers := by
  cases d <;> simp [Act.put]

theorem getD_set_of {L : Array Bool} {i j : Nat} (h : (L.setIfInBounds i true).getD j false = true) : j = i ∨ L.getD j false = true := by
  by_cases e : i = j
  · exact .inl e.symm
  · rw [getD_set_ne false e] at h; exact .inr h

theorem Fits.put {L : Array Bool} {a : Act} {w w' : World} {i : Nat} {o : Oper} {v : Value} (hf : fineB ops a0.tmps.size = true) (ho : ops[i]? = some o)
    (hall : ∀ e ∈ o.after, Region.binds .any e = true → L.getD e.on false = true)
    (hR : ∀ j v, R j v w → R j v w') (h : Fits ops a0 R L a w) (hv : o.dst.isSome → R i v w') : Fits ops a0 R (L.setIfInBounds i true) (a.put o.dst v) w' where
  defers := by rw [defers_put]; exact h.defers
  size := by rw [size_put]; exact h.size
  lsize := by rw [Array.size_setIfInBounds]; exact h.lsize
  val := by
    intro j oj t hj hL hd
    rcases getD_set_of hL with rfl | hL'
    · rw [ho] at hj; injection hj with hj; subst hj
      rw [hd, eval_put_same (by rw [h.size]; exact fine_lt hf ho hd)]
      exact hv (by rw [hd]; rfl)
    · by_cases e : j = i
      · subst e; rw [ho] at hj; injection hj with hj; subst hj
        rw [hd, eval_put_same (by rw [h.size]; exact fine_lt hf ho hd)]
        exact hv (by rw [hd]; rfl)
      · cases hd' : o.dst with
        | none => exact hR _ _ (h.val j oj t hj hL' hd)
        | some u =>
          have hne : u ≠ t := fun e2 => e (fine_dst hf ho hj (e2 ▸ hd') hd)
          rw [eval_put_other hne]; exact hR _ _ (h.val j oj t hj hL' hd)
  old := by
    intro t hno
    have h1 : a.eval (.tmp t) = a0.eval (.tmp t) := h.old t (fun j oj hj hL => hno j oj hj (getD_set_true hL))
    cases hd' : o.dst with
    | none => exact h1
    | some u =>
      have hlt : i < L.size := by
        rcases Nat.lt_or_ge i ops.size with h' | h'
        · rw [h.lsize]; exact h'
        · rw [Array.getElem?_eq_none h'] at ho; cases ho
      have hne : u ≠ t := fun e2 => hno i o ho (by simp [hlt]) (e2 ▸ hd')
      rw [eval_put_other hne]; exact h1
  closed := by
    intro j oj hj hL e he hb
    rcases getD_set_of hL with rfl | hL'
    · rw [ho] at hj; injection hj with hj; subst hj
      exact getD_set_true (hall e he hb)
    · exact getD_set_true (h.closed j oj hj hL' e he hb)

/-- Nothing may come up: all have. -/
theorem all_listed {n : Nat} {L : Array Bool} (hf : fineB ops n = true) (hl : L.size = ops.size) (hr : Region.ready .any ops L = []) : ∀ i, i < ops.size → L.getD i false = true := by
  intro i
  induction i using Nat.strongRecOn with
  | ind i ih =>
    intro hi
    have ho : ops[i]? = some ops[i] := Array.getElem?_eq_getElem hi
    cases hL : L.getD i false with
    | true => rfl
    | false =>
      have hm : i ∈ Region.ready .any ops L := by
        rw [mem_ready]
        refine ⟨?_, ops[i], ho, fun e he hb => ih e.on (fine_back hf ho e he hb) (Nat.lt_trans (fine_back hf ho e he hb) hi)⟩
        have hlt : i < L.size := by omega
        simp [hlt] at hL ⊢; exact hL
      rw [hr] at hm; cases hm

theorem count_set {L : Array Bool} {i : Nat} (h : L.getD i true = false) : (L.setIfInBounds i true).toList.countP (! ·) + 1 = L.toList.countP (! ·) := by
  have hlt : i < L.size := by
    rcases Nat.lt_or_ge i L.size with h' | h'
    · exact h'
    · simp [Array.getElem?_eq_none h'] at h
  have hv : L[i] = false := by simpa [hlt] using h
  have hp : 0 < L.toList.countP (! ·) := List.countP_pos_iff.2 ⟨L[i], by simp, by simp [hv]⟩
  rw [Array.toList_setIfInBounds, List.countP_set (by simpa using hlt)]
  have e : (L.toList)[i]'(by simpa using hlt) = false := by simpa using hv
  rw [e]
  show L.toList.countP (! ·) - 1 + 0 + 1 = _
  omega

/-- The rule, from any stage on. -/
theorem wpAny_of_steps {Q : Exit → Act → World → Prop} (hf : fineB ops a0.tmps.size = true) (hR : ∀ j v w w', Pres w w' → R j v w → R j v w')
    (hs : ∀ i o, ops[i]? = some o → StepAt P ops a0 R Pres Inv i o) (hrefl : ∀ w, Pres w w)
    (hend : ∀ L a w, (∀ i, i < ops.size → L.getD i false = true) → Inv L w → Fits ops a0 R L a w → Q .normal a w) :
    ∀ (fuel : Nat) (L : Array Bool) (a : Act) (w : World), L.toList.countP (! ·) = fuel → Inv L w → Fits ops a0 R L a w → wpAny P .any ops Q fuel L a w := by
  intro fuel
  induction fuel with
  | zero =>
    intro L a w hc hI hF
    have hr : Region.ready .any ops L = [] := by
      cases h : Region.ready .any ops L with
      | nil => rfl
      | cons x xs =>
        have hx : x ∈ Region.ready .any ops L := by rw [h]; simp
        have := count_set (mem_ready.1 hx).1
        omega
    exact ⟨hr, hend L a w (all_listed hf hF.lsize hr) hI hF⟩
  | succ fuel ih =>
    intro L a w hc hI hF
    refine ⟨fun hr => hend L a w (all_listed hf hF.lsize hr) hI hF, fun i hi => ?_⟩
    obtain ⟨h0, o, ho, hall⟩ := mem_ready.1 hi
    have hst := hs i o ho L a.eval w hI h0 hall hF.at
    have hcs := count_set h0
    unfold wpOp
    simp only [ho]
    have go : Outcome P (fun v w' => R i v w' ∧ Pres w w' ∧ Inv (L.setIfInBounds i true) w') ((execOp a.eval o).run P w) →
        o.wp P a w (wpAny P .any ops Q fuel (L.setIfInBounds i true)) Q := fun h =>
      outcome_wp h fun v w' ⟨h1, h2, h3⟩ => ih _ _ _ (by omega) h3 (hF.put hf ho hall (fun j v => hR j v w w' h2) (fun _ => h1))
    cases hg : o.guard with
    | none =>
      rw [hg] at hst
      rw [if_pos (by simp [Region.wanted, hg])]
      exact .inl (go hst)
    | some gw =>
      obtain ⟨g, want⟩ := gw
      rw [hg] at hst
      rcases hst with ⟨og, t, b, hog, hd, hev, hcase⟩ | ⟨og, t, hog, hd, hev, hcase⟩
      case inr =>
        have hy : yielded ops a.tmps g = none := yielded_undef hog hd hev
        rw [if_neg (by simp [Region.wanted, hg, hy])]
        exact ih _ _ _ (by omega) hcase.2 (hF.put hf ho hall (fun j v => hR j v w w (hrefl w)) (fun _ => hcase.1))
      have hy : yielded ops a.tmps g = some b := by
        have hb : a.tmps[t]? = some (.bool b) := by
          have : a.tmps.getD t undef = .bool b := hev
          rw [Array.getD_eq_getD_getElem?] at this
          cases h : a.tmps[t]? with
          | none => rw [h] at this; cases this
          | some x => rw [h] at this; simpa using this
        simp [yielded, hog, hd, hb]
      by_cases hbw : b = want
      · rw [if_pos hbw] at hcase
        rw [if_pos (by simp [Region.wanted, hg, hy, hbw])]
        exact .inl (go hcase)
      · rw [if_neg hbw] at hcase
        rw [if_neg (by simp [Region.wanted, hg, hy, hbw])]
        exact ih _ _ _ (by omega) hcase.2 (hF.put hf ho hall (fun j v => hR j v w w (hrefl w)) (fun _ => hcase.1))

/-- No operation writes slot t. -/
def noneWrites (ops : Array Oper) (t : Nat) : Bool := ops.all fun o => o.dst != some t
/-- None but number j writes slot t. -/
def onlyWrites (ops : Array Oper) (t j : Nat) : Bool := (List.range ops.size).all fun i => decide (i = j) || ((ops[i]?).bind (·.dst)) != some t

theorem At.oldNone {L : Array Bool} {ev : Operand → Value} {w : World} (h : At ops a0 R L ev w) (t : Nat) (hb : noneWrites ops t = true) : ev (.tmp t) = a0.eval (.tmp t) := by
  refine h.old t fun j o ho _ hd => ?_
  have := (Array.all_eq_true_iff_forall_mem.1 hb) o (Array.mem_of_getElem? ho)
  simp [hd] at this

theorem At.oldBut {L : Array Bool} {ev : Operand → Value} {w : World} {i : Nat} (h : At ops a0 R L ev w) (j : Nat) (oj : Oper) (t : Nat) (hb : onlyWrites ops t j = true) (hj : ops[j]? = some oj)
    (e : Edge) (he : e ∈ oj.after) (hbi : Region.binds .any e = true) (hi : L.getD i true = false) (hei : e.on = i := by rfl) : ev (.tmp t) = a0.eval (.tmp t) := by
  refine h.old t fun k o ho hL hd => ?_
  have hk : k < ops.size := by
    rcases Nat.lt_or_ge k ops.size with h' | h'
    · exact h'
    · rw [Array.getElem?_eq_none h'] at ho; cases ho
  have h1 := List.all_eq_true.1 hb k (List.mem_range.2 hk)
  simp only [ho, Option.bind_some, hd] at h1
  have hkj : k = j := by simpa using h1
  subst hkj
  have h2 := h.closed k oj hj hL e he hbi
  rw [hei] at h2
  rcases Nat.lt_or_ge i L.size with h' | h'
  · simp [h'] at h2 hi; rw [hi] at h2; cases h2
  · simp [Array.getElem?_eq_none h'] at h2

/-- Properties by a list. -/
def ofList (l : List (Value → World → Prop)) : Nat → Value → World → Prop := fun j => l.getD j (fun _ _ => True)

/-- Each of them is kept. -/
def AllKept (Pres : World → World → Prop) : List (Value → World → Prop) → Prop
  | [] => True
  | p :: l => (∀ v w w', Pres w w' → p v w → p v w') ∧ AllKept Pres l

theorem AllKept.at {Pres : World → World → Prop} : ∀ (l : List (Value → World → Prop)), AllKept Pres l → ∀ j v w w', Pres w w' → ofList l j v w → ofList l j v w'
  | [], _, _, _, _, _, _, _ => trivial
  | _ :: _, h, 0, v, w, w', hp, hv => h.1 v w w' hp hv
  | _ :: l, h, j + 1, v, w, w', hp, hv => AllKept.at l h.2 j v w w' hp hv

theorem out_new {K : Value → World → Prop} {ev : Operand → Value} {o : Oper} {w w' : World} {v : Value} (hrun : (execOp ev o).run P w = .ok (.value v) w') (hk : K v w') :
    Outcome P K ((execOp ev o).run P w) := by
  rw [hrun]; exact hk
theorem out_value {K : Value → World → Prop} {ev : Operand → Value} {o : Oper} {w : World} {v : Value} (hrun : (execOp ev o).run P w = .ok (.value v) w) (hk : K v w) :
    Outcome P K ((execOp ev o).run P w) := by
  rw [hrun]; exact hk
theorem out_call {f : Nat} {K : Value → World → Prop} {ev : Operand → Value} {o : Oper} {w w0 : World} {args : Array Value} (hrun : (execOp ev o).run P w = .ok (.enter f args) w0)
    (hc : Calls P f args w0 fun e w'' => ∃ v, e = .returned v ∧ K v w'') : Outcome P K ((execOp ev o).run P w) := by
  rw [hrun]; exact hc

/-- THE RULE. -/
theorem wp_region_props {id : Nat} {l : List Oper} {Q : Exit → Act → World → Prop} {w : World} (R : Nat → Value → World → Prop) (Pres : World → World → Prop) (Inv : Array Bool → World → Prop)
    (hm : P.follows .mixedOrders = true) (hf : fineB l.toArray a0.tmps.size = true) (hR : ∀ j v w w', Pres w w' → R j v w → R j v w') (hrefl : ∀ w, Pres w w)
    (hI : Inv (Array.replicate l.length false) w.drew)
    (hs : AllSteps P l.toArray a0 R Pres Inv 0 l)
    (hend : ∀ L a w, (∀ i, i < l.length → L.getD i false = true) → Inv L w → Fits l.toArray a0 R L a w → Q .normal a w) : (Code.region id l.toArray true).wp P Q a0 w := by
  refine wp_region_any hm ?_
  refine wpAny_of_steps (Pres := Pres) (Inv := Inv) (R := R) (a0 := a0) hf hR ?_ hrefl (by simpa using hend) _ _ _ _ ?_ (by simpa using hI) ?_
  · intro i o ho
    have := hs.at l 0 i o (by simpa using ho)
    simpa using this
  · simp [List.countP_replicate]
  · refine ⟨rfl, rfl, by simp, ?_, fun _ _ => rfl, ?_⟩
    · intro j o t ho hL
      exfalso
      rw [Array.getD_eq_getD_getElem?] at hL
      by_cases hj : j < l.toArray.size
      · simp at hj; simp [hj] at hL
      · simp at hj; simp [hj] at hL
    · intro j o ho hL
      exfalso
      rw [Array.getD_eq_getD_getElem?] at hL
      by_cases hj : j < l.toArray.size
      · simp at hj; simp [hj] at hL
      · simp at hj; simp [hj] at hL
end

/-- A slice of just these values, in a block of its own. -/
def OwnSl (l : List Value) (v : Value) (w : World) : Prop :=
  ∃ sb, v = .slice (some ⟨sb, 0, none⟩) l.length l.length ∧ sb < w.heap.size ∧ ∀ i (h : i < l.length), w.cell? ⟨sb, i, none⟩ = some l[i]
/-- Nothing that was there is another one. -/
def Keeps (w w' : World) : Prop := RowKit.Below w.heap.size w w'
theorem Keeps.refl (w : World) : Keeps w w := RowKit.Below.refl _ _
theorem Keeps.drewN {w w' : World} (h : Keeps w w') (n : Nat) : Keeps w (w'.drewN n) := ⟨h.os, h.tape, h.output, h.size, h.block⟩
theorem Keeps.alloc {w w' : World} (h : Keeps w w') (o : Obj) : Keeps w (w'.alloc o) := RowKit.Below.alloc h h.size o
theorem Keeps.trans {w w' w'' : World} (h : Keeps w w') (k : Keeps w' w'') : Keeps w w'' := RowKit.Below.trans h (RowKit.Below.mono k h.size)
theorem OwnSl.keeps {l : List Value} {v : Value} {w w' : World} (hk : Keeps w w') (h : OwnSl l v w) : OwnSl l v w' := by
  obtain ⟨sb, hv, hs, hc⟩ := h
  refine ⟨sb, hv, Nat.lt_of_lt_of_le hs hk.size, fun i hi => ?_⟩
  rw [hk.cell (p := ⟨sb, i, none⟩) hs]; exact hc i hi
theorem OwnSl.new (l : List Value) (w : World) (t : TypeId) (n : Nat) (hn : n = l.length) : OwnSl l (.slice (some ⟨w.heap.size, 0, none⟩) n n) (w.alloc (.cells l.toArray t)) := by
  subst hn
  refine ⟨w.heap.size, rfl, by simp, fun i hi => ?_⟩
  rw [World.cell?_alloc_new]; simp [hi]
end Go.Proofs.Ytepigofpcjmddaa.Reg

namespace Go.Proofs.Ytepigofpcjmddaa.Reg
open Go

section
variable {γ : Type} (P : Program) (ops : Array Oper) (a0 : Act) (R : Nat → Value → γ → World → Prop) (Pres : γ → World → γ → World → Prop) (Inv : γ → Array Bool → World → Prop)

/-- What is asked of one operation. -/
def GStepAt (i : Nat) (o : Oper) : Prop :=
  ∀ (x : γ) (L : Array Bool) (ev : Operand → Value) (w : World), Inv x L w → L.getD i true = false → (∀ e ∈ o.after, Region.binds .any e = true → L.getD e.on false = true) → At ops a0 (fun j v w => R j v x w) L ev w →
    match o.guard with
    | none => Outcome P (fun v w' => ∃ x', R i v x' w' ∧ Pres x w x' w' ∧ Inv x' (L.setIfInBounds i true) w') ((execOp ev o).run P w)
    | some (g, want) => ∃ og t b, ops[g]? = some og ∧ og.dst = some t ∧ ev (.tmp t) = .bool b ∧
        if b = want then Outcome P (fun v w' => ∃ x', R i v x' w' ∧ Pres x w x' w' ∧ Inv x' (L.setIfInBounds i true) w') ((execOp ev o).run P w)
        else R i undef x w ∧ Inv x (L.setIfInBounds i true) w

def GAllSteps : Nat → List Oper → Prop
  | _, [] => True
  | k, o :: l => GStepAt P ops a0 R Pres Inv k o ∧ GAllSteps (k + 1) l
end

section
variable {γ : Type} {P : Program} {ops : Array Oper} {a0 : Act} {R : Nat → Value → γ → World → Prop} {Pres : γ → World → γ → World → Prop} {Inv : γ → Array Bool → World → Prop}

theorem GStepAt.plain {i : Nat} {o : Oper} (hg : o.guard = none)
    (h : ∀ (x : γ) (L : Array Bool) (ev : Operand → Value) (w : World), Inv x L w → L.getD i true = false → (∀ e ∈ o.after, Region.binds .any e = true → L.getD e.on false = true) → At ops a0 (fun j v w => R j v x w) L ev w →
      Outcome P (fun v w' => ∃ x', R i v x' w' ∧ Pres x w x' w' ∧ Inv x' (L.setIfInBounds i true) w') ((execOp ev o).run P w)) : GStepAt P ops a0 R Pres Inv i o := by
  intro x L ev w hI hk hp hA
  rw [hg]; exact h x L ev w hI hk hp hA
theorem GStepAt.guarded {i g : Nat} {want : Bool} {o : Oper} (hg : o.guard = some (g, want))
    (h : ∀ (x : γ) (L : Array Bool) (ev : Operand → Value) (w : World), Inv x L w → L.getD i true = false → (∀ e ∈ o.after, Region.binds .any e = true → L.getD e.on false = true) → At ops a0 (fun j v w => R j v x w) L ev w →
      ∃ og t, ops[g]? = some og ∧ og.dst = some t ∧ ev (.tmp t) = .bool want ∧
        Outcome P (fun v w' => ∃ x', R i v x' w' ∧ Pres x w x' w' ∧ Inv x' (L.setIfInBounds i true) w') ((execOp ev o).run P w)) : GStepAt P ops a0 R Pres Inv i o := by
  intro x L ev w hI hk hp hA
  rw [hg]
  obtain ⟨og, t, h1, h2, h3, h4⟩ := h x L ev w hI hk hp hA
  exact ⟨og, t, want, h1, h2, h3, by rw [if_pos rfl]; exact h4⟩

theorem GAllSteps.at : ∀ (l : List Oper) (k : Nat), GAllSteps P ops a0 R Pres Inv k l → ∀ (i : Nat) (o : Oper), l[i]? = some o → GStepAt P ops a0 R Pres Inv (k + i) o
  | [], _, _, i, o, h => by simp at h
  | x :: l, k, hs, 0, o, h => by simp at h; subst h; exact hs.1
  | x :: l, k, hs, i + 1, o, h => by
    have := GAllSteps.at l (k + 1) hs.2 i o (by simpa using h)
    rw [show k + (i + 1) = k + 1 + i by omega]; exact this

/-- The properties turned, all at once. -/
theorem Fits.turn {R R' : Nat → Value → World → Prop} {L : Array Bool} {a : Act} {w w' : World} (h : Fits ops a0 R L a w) (hR : ∀ j v, R j v w → R' j v w') : Fits ops a0 R' L a w' :=
  ⟨h.defers, h.size, h.lsize, fun j o t h1 h2 h3 => hR _ _ (h.val j o t h1 h2 h3), h.old, h.closed⟩

theorem gwpAny_of_steps {Q : Exit → Act → World → Prop} (hf : fineB ops a0.tmps.size = true) (hR : ∀ j v x w x' w', Pres x w x' w' → R j v x w → R j v x' w')
    (hs : ∀ i o, ops[i]? = some o → GStepAt P ops a0 R Pres Inv i o)
    (hend : ∀ x L a w, (∀ i, i < ops.size → L.getD i false = true) → Inv x L w → Fits ops a0 (fun j v w => R j v x w) L a w → Q .normal a w) :
    ∀ (fuel : Nat) (x : γ) (L : Array Bool) (a : Act) (w : World), L.toList.countP (! ·) = fuel → Inv x L w → Fits ops a0 (fun j v w => R j v x w) L a w → wpAny P .any ops Q fuel L a w := by
  intro fuel
  induction fuel with
  | zero =>
    intro x L a w hc hI hF
    have hr : Region.ready .any ops L = [] := by
      cases h : Region.ready .any ops L with
      | nil => rfl
      | cons y ys =>
        have hx : y ∈ Region.ready .any ops L := by rw [h]; simp
        have := count_set (mem_ready.1 hx).1
        omega
    exact ⟨hr, hend x L a w (all_listed hf hF.lsize hr) hI hF⟩
  | succ fuel ih =>
    intro x L a w hc hI hF
    refine ⟨fun hr => hend x L a w (all_listed hf hF.lsize hr) hI hF, fun i hi => ?_⟩
    obtain ⟨h0, o, ho, hall⟩ := mem_ready.1 hi
    have hst := hs i o ho x L a.eval w hI h0 hall hF.at
    have hcs := count_set h0
    unfold wpOp
    simp only [ho]
    have go : Outcome P (fun v w' => ∃ x', R i v x' w' ∧ Pres x w x' w' ∧ Inv x' (L.setIfInBounds i true) w') ((execOp a.eval o).run P w) →
        o.wp P a w (wpAny P .any ops Q fuel (L.setIfInBounds i true)) Q := fun h =>
      outcome_wp h fun v w' ⟨x', h1, h2, h3⟩ => ih x' _ _ _ (by omega) h3 ((hF.turn (R' := fun j v w => R j v x' w) (w' := w') (fun j v => hR j v x w x' w' h2)).put hf ho hall (fun _ _ h => h) (fun _ => h1))
    cases hg : o.guard with
    | none =>
      rw [hg] at hst
      rw [if_pos (by simp [Region.wanted, hg])]
      exact .inl (go hst)
    | some gw =>
      obtain ⟨g, want⟩ := gw
      rw [hg] at hst
      obtain ⟨og, t, b, hog, hd, hev, hcase⟩ := hst
      have hy : yielded ops a.tmps g = some b := by
        have hb : a.tmps[t]? = some (.bool b) := by
          have : a.tmps.getD t undef = .bool b := hev
          rw [Array.getD_eq_getD_getElem?] at this
          cases h : a.tmps[t]? with
          | none => rw [h] at this; cases this
          | some y => rw [h] at this; simpa using this
        simp [yielded, hog, hd, hb]
      by_cases hbw : b = want
      · rw [if_pos hbw] at hcase
        rw [if_pos (by simp [Region.wanted, hg, hy, hbw])]
        exact .inl (go hcase)
      · rw [if_neg hbw] at hcase
        rw [if_neg (by simp [Region.wanted, hg, hy, hbw])]
        exact ih x _ _ _ (by omega) hcase.2 (hF.put hf ho hall (fun _ _ h => h) (fun _ => hcase.1))

/-- THE RULE, with a ghost. -/
theorem wp_region_ghost {id : Nat} {l : List Oper} {Q : Exit → Act → World → Prop} {w : World} (R : Nat → Value → γ → World → Prop) (Pres : γ → World → γ → World → Prop) (Inv : γ → Array Bool → World → Prop) (x0 : γ)
    (hm : P.follows .mixedOrders = true) (hf : fineB l.toArray a0.tmps.size = true) (hR : ∀ j v x w x' w', Pres x w x' w' → R j v x w → R j v x' w')
    (hI : Inv x0 (Array.replicate l.length false) w.drew)
    (hs : GAllSteps P l.toArray a0 R Pres Inv 0 l)
    (hend : ∀ x L a w, (∀ i, i < l.length → L.getD i false = true) → Inv x L w → Fits l.toArray a0 (fun j v w => R j v x w) L a w → Q .normal a w) : (Code.region id l.toArray true).wp P Q a0 w := by
  refine wp_region_any hm ?_
  refine gwpAny_of_steps (Pres := Pres) (Inv := Inv) (R := R) (a0 := a0) hf hR ?_ (by simpa using hend) _ x0 _ _ _ ?_ (by simpa using hI) ?_
  · intro i o ho
    have := hs.at l 0 i o (by simpa using ho)
    simpa using this
  · simp [List.countP_replicate]
  · refine ⟨rfl, rfl, by simp, ?_, fun _ _ => rfl, ?_⟩
    · intro j o t ho hL
      exfalso
      rw [Array.getD_eq_getD_getElem?] at hL
      by_cases hj : j < l.toArray.size
      · simp at hj; simp [hj] at hL
      · simp at hj; simp [hj] at hL
    · intro j o ho hL
      exfalso
      rw [Array.getD_eq_getD_getElem?] at hL
      by_cases hj : j < l.toArray.size
      · simp at hj; simp [hj] at hL
      · simp at hj; simp [hj] at hL

/-- Properties by a list. -/
def gofList (l : List (Value → γ → World → Prop)) : Nat → Value → γ → World → Prop := fun j => l.getD j (fun _ _ _ => True)
def GAllKept (Pres : γ → World → γ → World → Prop) : List (Value → γ → World → Prop) → Prop
  | [] => True
  | p :: l => (∀ v x w x' w', Pres x w x' w' → p v x w → p v x' w') ∧ GAllKept Pres l
theorem GAllKept.at {Pres : γ → World → γ → World → Prop} : ∀ (l : List (Value → γ → World → Prop)), GAllKept Pres l → ∀ j v x w x' w', Pres x w x' w' → gofList l j v x w → gofList l j v x' w'
  | [], _, _, _, _, _, _, _, _, _ => trivial
  | _ :: _, h, 0, v, x, w, x', w', hp, hv => h.1 v x w x' w' hp hv
  | _ :: l, h, j + 1, v, x, w, x', w', hp, hv => GAllKept.at l h.2 j v x w x' w' hp hv
end
end Go.Proofs.Ytepigofpcjmddaa.Reg

namespace Go.Proofs.Ytepigofpcjmddaa
open Go.RowKit
namespace Reg

theorem fold_size (f : Nat → Value) : ∀ (ds : List Nat) (T : Array Value), (ds.foldl (fun T t => T.setIfInBounds t (f t)) T).size = T.size
  | [], _ => rfl
  | d :: ds, T => by rw [List.foldl_cons, fold_size f ds]; simp
theorem fold_get (f : Nat → Value) : ∀ (ds : List Nat) (T : Array Value) (i : Nat), i < T.size → (ds.foldl (fun T t => T.setIfInBounds t (f t)) T)[i]? = if ds.contains i = true then some (f i) else T[i]?
  | [], T, i, _ => by simp
  | d :: ds, T, i, h => by
    rw [List.foldl_cons, fold_get f ds _ i (by simpa using h), Array.getElem?_setIfInBounds]
    by_cases e : ds.contains i = true
    · rw [if_pos e, if_pos (by simp at e ⊢; exact .inr e)]
    · rw [if_neg e]
      by_cases e2 : d = i
      · subst e2; rw [if_pos rfl, if_pos h, if_pos (by simp)]
      · rw [if_neg e2, if_neg (by simp at e ⊢; exact ⟨fun q => e2 q.symm, e⟩)]

def coversB (ops : Array Oper) (ds : List Nat) : Bool := (List.range ops.size).all fun j => match (ops[j]?).bind (·.dst) with | none => true | some t => ds.contains t
theorem covers_at {ops : Array Oper} {ds : List Nat} (h : coversB ops ds = true) {j t : Nat} {o : Oper} (ho : ops[j]? = some o) (hd : o.dst = some t) : ds.contains t = true := by
  have hj : j < ops.size := by
    rcases Nat.lt_or_ge j ops.size with h' | h'
    · exact h'
    · rw [Array.getElem?_eq_none h'] at ho; cases ho
  have := List.all_eq_true.1 h j (List.mem_range.2 hj)
  simp only [ho, Option.bind_some, hd] at this
  exact this

theorem Fits.act {ops : Array Oper} {a0 : Act} {R : Nat → Value → World → Prop} {L : Array Bool} {a : Act} {w : World} (hF : Fits ops a0 R L a w) (ds : List Nat) (hc : coversB ops ds = true) :
    a = ⟨ds.foldl (fun T t => T.setIfInBounds t (a.eval (.tmp t))) a0.tmps, a0.defers⟩ := by
  have hsz := hF.size
  have hdf := hF.defers
  have hold : ∀ t, ds.contains t = false → a.eval (.tmp t) = a0.eval (.tmp t) := fun t ht => hF.old t (fun j o ho _ hd => by rw [covers_at hc ho hd] at ht; cases ht)
  have hev : ∀ t, a.eval (.tmp t) = a.tmps.getD t undef := fun _ => rfl
  have hev0 : ∀ t, a0.eval (.tmp t) = a0.tmps.getD t undef := fun _ => rfl
  have ht : a.tmps = ds.foldl (fun T t => T.setIfInBounds t (a.eval (.tmp t))) a0.tmps := by
    apply Array.ext_getElem?
    intro i
    by_cases hi : i < a0.tmps.size
    · rw [fold_get (fun t => a.eval (.tmp t)) ds a0.tmps i hi]
      have hia : i < a.tmps.size := by rw [hsz]; exact hi
      cases e : ds.contains i
      · rw [if_neg (by decide)]
        have := hold i e
        rw [hev, hev0, Array.getD_eq_getD_getElem?, Array.getD_eq_getD_getElem?, Array.getElem?_eq_getElem hia, Array.getElem?_eq_getElem hi] at this
        rw [Array.getElem?_eq_getElem hia, Array.getElem?_eq_getElem hi]
        exact congrArg some this
      · rw [if_pos rfl, hev, Array.getD_eq_getD_getElem?, Array.getElem?_eq_getElem hia]
        rfl
    · rw [Array.getElem?_eq_none (by rw [hsz]; omega), Array.getElem?_eq_none (by rw [fold_size]; omega)]
  obtain ⟨t, d⟩ := a
  simp only at hdf
  subst hdf
  exact congrArg (fun q => (⟨q, a0.defers⟩ : Act)) ht
end Reg
end Go.Proofs.Ytepigofpcjmddaa
