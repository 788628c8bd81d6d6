/-
  Layer 4's work: pile.Sorted: the canonical items in order, by the library's slices.SortFunc.
-/
import Derived.Test.YtogacknpkoiokaaSortIt
import Derived.Test.YtogacknpkoiokaaPileO
namespace Go.Proofs.Ytogacknpkoiokaa
open Go.RowKit Go.Sort Go.Lib

def encK (x : KI) : List Value := [.float .f64 x.b, .int .i64 x.v]
def cfK (x y : KI) : Int := cmpN x.b x.v y.b y.v
theorem ltK : ltOf cfK = KI.lt := rfl

theorem closure_any (x y : KI) (W : World) : Calls Try.prog 56 #[.agg #[.float .f64 x.b, .int .i64 x.v], .agg #[.float .f64 y.b, .int .i64 y.v]] W fun e w' => e = .returned (.int .i64 (cfK x y)) ∧ ∃ q os', w' = grow (W.drewN q) os' := by
  have hC := fun w => icmp_any x.b y.b x.v y.v w x.ok.1 y.ok.1
  have hcf : cfK x y = cmpN x.b x.v y.b y.v := rfl
  rw [hcf]
  clear hcf
  generalize cmpN x.b x.v y.b y.v = c at *
  go_enter Try.func56, Try.ntmps56
  go_wp2_with (go_at_call 57; refine (hC _).mono ?_; rintro e w' ⟨rfl, hw⟩; replace hw := hw.symm; subst hw)
  go_ret
  exact ⟨rfl, 0, _, by rw [alloc_eq_grow, alloc_eq_grow, alloc_eq_grow, alloc_eq_grow, grow_grow, grow_grow, grow_grow]; rfl⟩

theorem cmpLays (blk off size : Nat) (w : World) : CmpLays Try.prog 56 #[] encK 2 cfK blk off size w :=
  fun _ _ _ _ x y => closure_any x y _

theorem flat0 (d : Array KI) (i : Nat) (h : i < d.size) : (flatK encK 2 d)[i * 2]! = .float .f64 d[i]!.b := by
  rw [get_flatK _ _ _ _ (by omega), Nat.mul_div_cancel _ (by decide), Nat.mul_mod_left]; rfl
theorem flat1 (d : Array KI) (i : Nat) (h : i < d.size) : (flatK encK 2 d)[i * 2 + 1]! = .int .i64 d[i]!.v := by
  rw [get_flatK _ _ _ _ (by omega), show (i * 2 + 1) / 2 = i by omega, show (i * 2 + 1) % 2 = 1 by omega]; rfl
theorem Row.holdsK {w : World} {g cap : Nat} {d : Array KI} (h : Row w g cap d) : HoldsK encK 2 w g 0 d := by
  intro j hj
  rw [size_flatK] at hj
  have hle := h.le
  rw [Nat.zero_add]
  refine ⟨?_, (h.there j (by omega)).2⟩
  show _ = some ((flatK encK 2 d)[j]!)
  rcases Nat.mod_two_eq_zero_or_one j with e | e
  · obtain ⟨i, rfl⟩ : ∃ i, j = i * 2 := ⟨j / 2, by omega⟩
    rw [flat0 d i (by omega)]; exact h.flt i (by omega)
  · obtain ⟨i, rfl⟩ : ∃ i, j = i * 2 + 1 := ⟨j / 2, by omega⟩
    rw [flat1 d i (by omega)]; exact h.val i (by omega)

theorem but_sort (w : World) (g n : Nat) (d : Array KI) (os : Array Obj) : But (fun k => k = g) w (sortWorldK encK 2 w g 0 n d os) := by
  refine ⟨rfl, rfl, rfl, ?_, ?_⟩
  · unfold sortWorldK putRowK
    rw [size_grow, size_putRow]
    exact Nat.le_add_right _ _
  · intro k hk hn
    unfold sortWorldK putRowK
    rw [heap_grow_old _ _ (by rw [size_putRow]; exact hk)]
    unfold putRow mapBlock
    show (w.heap.modify g _)[k]? = _
    rw [Array.getElem?_modify, if_neg (fun e => hn e.symm)]
theorem row_sort {w : World} {g n m : Nat} {d d' : Array KI} (h : Row w g n d) (hn : d.size = n) (hs : d'.size = d.size) (os : Array Obj) : Row (sortWorldK encK 2 w g 0 m d' os) g n d' := by
  have hb := but_sort w g m d' os
  have hl : g < (putRow id (Sort.ahead w m) g 0 (flatK encK 2 d')).heap.size := by rw [size_putRow]; exact h.lt
  have hH0 : Holds id (Sort.ahead w m) g 0 (flatK encK 2 d) := h.holdsK
  have hH : Holds id (sortWorldK encK 2 w g 0 m d' os) g 0 (flatK encK 2 d') :=
    holds_grow id _ os g 0 _ hl (holds_putRow id (Sort.ahead w m) g 0 _ _ hH0 (by rw [size_flatK, size_flatK, hs]))
  refine ⟨Nat.lt_of_lt_of_le h.lt hb.size, by rw [hs]; exact h.le, by rw [hs]; exact h.max, h.cmax, ?_, ?_, ?_⟩
  · intro i hi
    have := (hH (i * 2) (by rw [size_flatK]; omega)).1
    rw [Nat.zero_add, flat0 d' i hi] at this
    exact this
  · intro i hi
    have := (hH (i * 2 + 1) (by rw [size_flatK]; omega)).1
    rw [Nat.zero_add, flat1 d' i hi] at this
    exact this
  · intro j hj
    have := hH j (by rw [size_flatK, hs, hn]; exact hj)
    rw [Nat.zero_add] at this
    exact ⟨by rw [this.1]; rfl, this.2⟩

/-- The canonical items in order. -/
def srt (L : List KI) : List KI := L.mergeSort fun x y => !(KI.lt y x)

theorem sorted_any (a : Option Addr) (n cap : Nat) (P : Nat → Nat) (V : Nat → Int) (w : World) (h : Items w a n P V) (hn : n ≤ 1099511627776) :
    Calls Try.prog 24 #[.slice a n cap] w fun e w' => ∃ g, e = .returned (.slice (some ⟨g, 0, none⟩) n n) ∧ w.heap.size ≤ g ∧ Row w' g n (srt (canArr P V n n).toList).toArray ∧ Below w.heap.size w w' := by
  have hcan := canonical_any a n cap P V w h hn
  have eg : ∀ args w, (callFunc 56 args).run Try.prog w = .ok (.enter 56 args) w := enters_of Try.func56 (by kernel_rfl) rfl
  have hsort : ∀ w1 g, w.heap.size ≤ g → Row w1 g n (canArr P V n n) → Below w.heap.size w w1 → Calls Try.prog 55 #[.slice (some ⟨g, 0, none⟩) n n, .func (.func 56) #[] #[]] w1 fun e w' => e = .returned (.tuple #[]) ∧ Row w' g n (srt (canArr P V n n).toList).toArray ∧ Below w.heap.size w w' := by
    intro w1 g hg hR hB
    have hz := canArr_size P V n n
    have := AnyQ.slices_SortFunc_total Try.sortIt 2 Try.isAgg29 Try.sizeOf29 encK (fun _ => rfl) (fun x v hv => by simp [encK] at hv; rcases hv with rfl | rfl <;> rfl) cfK (by rw [ltK]; exact KI.swo) 56 #[] g 0 n (canArr P V n n) w1 eg (cmpLays g 0 _ w1) hR.holdsK hR.lt (by rw [hz]; omega) (by rw [ltK]; exact KI.total)
    rw [hz] at this
    refine Calls.mono this ?_
    rintro e w' ⟨rfl, m, os, rfl⟩
    rw [ltK]
    refine ⟨rfl, row_sort hR hz (by simp [hz, List.length_mergeSort]) os, hB.trans ((but_sort w1 g m _ os).below hB.size (fun k e => by omega))⟩
  clear h hn eg
  go_enter Try.func24, Try.ntmps24
  go_wp2_with fail
  refine hcan.mono ?_
  rintro e w1 ⟨g, rfl, hg, hR, hB⟩
  go_wp2_with fail
  refine (hsort _ g hg hR hB).mono ?_
  rintro e w2 ⟨rfl, hR2, hB2⟩
  clear hR hB hcan hsort
  go_wp2
  go_ret
  exact ⟨g, rfl, hg, hR2, hB2⟩
end Go.Proofs.Ytogacknpkoiokaa
