/-
  Places in the order of their numbers: a stable sort of rising places is a sort by number and place.
  How two words of 64 bits stand to each other as floats: by their rungs with signs. Plain numbers.
  The highest of 64 bits. Plain numbers.
  Layer 3, its calls and the document's answers by bits: contracts.
  A heap in an array: what sifting down and up keeps. Plain arrays.
  Layer 4: items, their order, their places: contracts.
-/
import Derived.Test.YtepigofpcjmddaaFrame6All
import Derived.Shelf.SlSortCmp.Insertion1
import Ieee.Arith
import Derived.Laws.BitsAllLaws
import Derived.Test.YtepigofpcjmddaaChecked
import Derived.WalkKit
import Derived.Laws.Cover2
import Derived.Laws.Externs
import Derived.Sort.Lot0
import Derived.Sort.LotA
import Derived.BigQuiet
import Derived.Deep.QuietTactic
namespace Go.Proofs.Ytepigofpcjmddaa
open Go.RowKit Go.Sort

section
variable {k : Nat} (E : Fin (k + 1) → Int)
def ltE (i j : Fin (k + 1)) : Bool := decide (E i < E j)
def ltX (i j : Fin (k + 1)) : Bool := decide (E i < E j ∨ (E i = E j ∧ i.val < j.val))
theorem ltX_iff (i j : Fin (k + 1)) : ltX E i j = true ↔ E i < E j ∨ (E i = E j ∧ i.val < j.val) := by unfold ltX; exact decide_eq_true_iff
theorem ltX_not (i j : Fin (k + 1)) : ltX E i j = false ↔ ¬ (E i < E j ∨ (E i = E j ∧ i.val < j.val)) := by unfold ltX; exact decide_eq_false_iff_not
theorem ltX_swo : SWO (ltX E) := by
  refine ⟨fun x => ?_, fun x y z h1 h2 => ?_, fun x y z h1 h2 => ?_⟩
  · rw [ltX_not]; omega
  · rw [ltX_iff] at *; omega
  · rw [ltX_not] at *; omega
theorem ltE_ltX {i j : Fin (k + 1)} (h : j.val < i.val) : ltE E i j = ltX E i j := by
  unfold ltE ltX
  by_cases e : E i < E j
  · rw [decide_eq_true e, decide_eq_true (Or.inl e)]
  · rw [decide_eq_false e, decide_eq_false (by omega)]
theorem insInner_eq : ∀ (j : Nat) (d : Array (Fin (k + 1))), j < d.size → (∀ q, q < j → d[q]!.val < d[j]!.val) → insInner (ltE E) 0 j d = insInner (ltX E) 0 j d
  | 0, _, _, _ => rfl
  | j + 1, d, hj, h => by
    have h0 := h j (Nat.lt_succ_self j)
    show (if decide (j + 1 > 0) && ltE E d[j + 1]! d[j]! then _ else d) = (if decide (j + 1 > 0) && ltX E d[j + 1]! d[j]! then _ else d)
    rw [ltE_ltX E h0]
    have := insInner_eq j (swp d (j + 1) j) (by rw [swp_size]; omega) (fun q hq => by
      rw [swp_other d (j + 1) j q (by omega) (by omega), swp_right d (j + 1) j (by omega)]
      exact h q (by omega))
    rw [this]
theorem insInner_keeps (lt : Fin (k + 1) → Fin (k + 1) → Bool) : ∀ (j : Nat) (d : Array (Fin (k + 1))), j < d.size → (insInner lt 0 j d).size = d.size ∧ (∀ m, j < m → (insInner lt 0 j d)[m]! = d[m]!) ∧ (∀ q, q ≤ j → ∃ q', q' ≤ j ∧ (insInner lt 0 j d)[q]! = d[q']!)
  | 0, d, _ => ⟨rfl, fun _ _ => rfl, fun q hq => ⟨q, hq, rfl⟩⟩
  | j + 1, d, hj => by
    have ih := insInner_keeps lt j (swp d (j + 1) j) (by rw [swp_size]; omega)
    obtain ⟨h1, h2, h3⟩ := ih
    show (if decide (j + 1 > 0) && lt d[j + 1]! d[j]! then insInner lt 0 j (swp d (j + 1) j) else d).size = _ ∧ (∀ m, _ → (if decide (j + 1 > 0) && lt d[j + 1]! d[j]! then insInner lt 0 j (swp d (j + 1) j) else d)[m]! = _) ∧ (∀ q, _ → ∃ q', _ ∧ (if decide (j + 1 > 0) && lt d[j + 1]! d[j]! then insInner lt 0 j (swp d (j + 1) j) else d)[q]! = _)
    split
    · refine ⟨by rw [h1, swp_size], fun m hm => by rw [h2 m (by omega), swp_other d (j + 1) j m (by omega) (by omega)], fun q hq => ?_⟩
      by_cases e : q ≤ j
      · obtain ⟨q', hq', he⟩ := h3 q e
        by_cases e2 : q' = j
        · subst e2
          exact ⟨q' + 1, Nat.le_refl _, by rw [he, swp_right d (q' + 1) q' (by omega)]⟩
        · exact ⟨q', by omega, by rw [he, swp_other d (j + 1) j q' (by omega) e2]⟩
      · have e2 : q = j + 1 := by omega
        subst e2
        exact ⟨j, by omega, by rw [h2 (j + 1) (by omega), swp_left d (j + 1) j hj (by omega)]⟩
    · exact ⟨rfl, fun _ _ => rfl, fun q hq => ⟨q, hq, rfl⟩⟩
theorem insOuter_eq : ∀ (n b i : Nat) (d : Array (Fin (k + 1))), b - i ≤ n → b ≤ d.size → (∀ q m, q < m → i ≤ m → m < d.size → d[q]!.val < d[m]!.val) → insOuter (ltE E) 0 b i d = insOuter (ltX E) 0 b i d
  | 0, b, i, d, hn, _, _ => by
    rw [insOuter, if_neg (by omega)]
    conv => rhs; rw [insOuter, if_neg (by omega)]
  | n + 1, b, i, d, hn, hb, h => by
    by_cases e : i < b
    · rw [insOuter, if_pos e]
      conv => rhs; rw [insOuter, if_pos e]
      rw [insInner_eq E i d (by omega) (fun q hq => h q i hq (Nat.le_refl _) (by omega))]
      obtain ⟨h1, h2, h3⟩ := insInner_keeps (ltX E) i d (by omega)
      refine insOuter_eq n b (i + 1) _ (by omega) (by rw [h1]; exact hb) (fun q m hqm him hm => ?_)
      rw [h1] at hm
      rw [h2 m (by omega)]
      by_cases eq : q ≤ i
      · obtain ⟨q', hq', he⟩ := h3 q eq
        rw [he]
        exact h q' m (by omega) (by omega) hm
      · rw [h2 q (by omega)]
        exact h q m hqm (by omega) hm
    · rw [insOuter, if_neg e]
      conv => rhs; rw [insOuter, if_neg e]
/-- The stable sort of rising places. -/
theorem stable_sorted (d : Array (Fin (k + 1))) (h : ∀ q m, q < m → m < d.size → d[q]!.val < d[m]!.val) :
    (insertionSort (ltE E) d 0 d.size).size = d.size ∧ (insertionSort (ltE E) d 0 d.size).toList.Perm d.toList ∧ (insertionSort (ltE E) d 0 d.size).toList.Pairwise (fun x y => E x < E y ∨ (E x = E y ∧ x.val < y.val)) := by
  have he : insertionSort (ltE E) d 0 d.size = insertionSort (ltX E) d 0 d.size := insOuter_eq E _ _ _ d (Nat.le_refl _) (Nat.le_refl _) (fun q m a _ c => h q m a c)
  rw [he]
  obtain ⟨⟨h1, _, h2⟩, h3⟩ := insertionSort_holds (ltX_swo E) d 0 d.size (Nat.zero_le _) (Nat.le_refl _)
  generalize insertionSort (ltX E) d 0 d.size = S at *
  have hp : S.toList.Perm d.toList := by
    have e1 : S.extract 0 d.size = S := by rw [← h1]; exact Array.extract_size
    have e2 : d.extract 0 d.size = d := Array.extract_size
    rw [e1, e2] at h2
    exact h2
  refine ⟨h1, hp, ?_⟩
  have hnd : d.toList.Nodup := by
    rw [List.nodup_iff_pairwise_ne, List.pairwise_iff_getElem]
    intro i j hi hj hij e
    have := h i j hij (by simpa using hj)
    rw [getElem!_pos d i (by simpa using hi), getElem!_pos d j (by simpa using hj)] at this
    simp only [Array.getElem_toList] at e
    rw [e] at this
    omega
  have hnS := hp.nodup_iff.2 hnd
  rw [List.nodup_iff_pairwise_ne, List.pairwise_iff_getElem] at hnS
  rw [List.pairwise_iff_getElem]
  intro i j hi hj hij
  have hne := hnS i j hi hj hij
  have hi' : i < S.size := by simpa using hi
  have hj' : j < S.size := by simpa using hj
  have hs := h3 i j (Nat.zero_le _) hij (by omega)
  rw [getElem!_pos S i hi', getElem!_pos S j hj', ltX_not] at hs
  simp only [Array.getElem_toList] at hne ⊢
  have hv : (S[i]'hi').val ≠ (S[j]'hj').val := fun e => hne (Fin.ext e)
  omega
end
end Go.Proofs.Ytepigofpcjmddaa

namespace Go.Proofs.Ytepigofpcjmddaa.Flt
open Ieee

/-- The rung with its sign. -/
def srung (x : Nat) : Int := if x / 9223372036854775808 % 2 = 1 then -((x % 9223372036854775808 : Nat) : Int) else ((x % 9223372036854775808 : Nat) : Int)

def mag (r : Nat) : Nat := if r < 4503599627370496 then r else 4503599627370496 + r % 4503599627370496
def ex (r : Nat) : Nat := r / 4503599627370496 - 1
def val (r : Nat) : Nat := mag r * 2 ^ ex r

theorem val_succ (r : Nat) : val r < val (r + 1) := by
  unfold val mag ex
  by_cases h1 : r + 1 < 4503599627370496
  · have h2 : r < 4503599627370496 := by omega
    have e1 : r / 4503599627370496 - 1 = 0 := by omega
    have e2 : (r + 1) / 4503599627370496 - 1 = 0 := by omega
    rw [if_pos h2, if_pos h1, e1, e2]; omega
  · rw [if_neg h1]
    by_cases h2 : r < 4503599627370496
    · have e1 : r / 4503599627370496 - 1 = 0 := by omega
      have e2 : (r + 1) / 4503599627370496 - 1 = 0 := by omega
      have e3 : (r + 1) % 4503599627370496 = 0 := by omega
      rw [if_pos h2, e1, e2, e3]; omega
    · rw [if_neg h2]
      by_cases h3 : (r + 1) % 4503599627370496 = 0
      · have e2 : (r + 1) / 4503599627370496 - 1 = (r / 4503599627370496 - 1) + 1 := by omega
        have e3 : r % 4503599627370496 = 4503599627370495 := by omega
        rw [h3, e2, e3, Nat.pow_succ]
        have : 0 < 2 ^ (r / 4503599627370496 - 1) := Nat.two_pow_pos _
        generalize 2 ^ (r / 4503599627370496 - 1) = p at *
        omega
      · have e2 : (r + 1) / 4503599627370496 - 1 = r / 4503599627370496 - 1 := by omega
        have e3 : (r + 1) % 4503599627370496 = r % 4503599627370496 + 1 := by omega
        rw [e2, e3]
        have : 0 < 2 ^ (r / 4503599627370496 - 1) := Nat.two_pow_pos _
        exact Nat.mul_lt_mul_of_pos_right (by omega) this

theorem val_mono {r s : Nat} (h : r < s) : val r < val s := by
  induction s with
  | zero => omega
  | succ s ih =>
    by_cases e : r = s
    · subst e; exact val_succ r
    · exact Nat.lt_trans (ih (by omega)) (val_succ s)
theorem val_zero : val 0 = 0 := by simp [val, mag]
theorem val_lt_iff (r s : Nat) : val r < val s ↔ r < s := by
  constructor
  · intro h
    rcases Nat.lt_trichotomy r s with h1 | h1 | h1
    · exact h1
    · subst h1; omega
    · have := val_mono h1; omega
  · exact val_mono
theorem val_pos {r : Nat} (h : 0 < r) : 0 < val r := by have := val_mono h; omega

theorem read_num (x : Nat) (h : x % 9223372036854775808 < 9218868437227405312) :
    double.read x = .number (decide (x / 9223372036854775808 % 2 = 1)) (mag (x % 9223372036854775808)) (double.leastPlace + (ex (x % 9223372036854775808) : Nat)) := by
  unfold Format.read
  have e1 : double.signWeight = 9223372036854775808 := rfl
  have e2 : double.binade = 4503599627370496 := rfl
  have e3 : double.infRung = 9218868437227405312 := rfl
  simp only [e1, e2, e3]
  generalize x % 9223372036854775808 = r at *
  by_cases h1 : r < 4503599627370496
  · have e : r / 4503599627370496 - 1 = 0 := by omega
    simp [h1, mag, ex, e, BEq.beq]
  · simp [h1, h, mag, ex]
    rfl
theorem read_inf (x : Nat) (h : x % 9223372036854775808 = 9218868437227405312) : double.read x = .infinity (decide (x / 9223372036854775808 % 2 = 1)) := by
  unfold Format.read
  have e1 : double.signWeight = 9223372036854775808 := rfl
  have e2 : double.binade = 4503599627370496 := rfl
  have e3 : double.infRung = 9218868437227405312 := rfl
  simp only [e1, e2, e3, h]
  rfl
theorem read_nan (x : Nat) (h : 9218868437227405312 < x % 9223372036854775808) : ∃ s t, double.read x = .nan s t := by
  unfold Format.read
  have e1 : double.signWeight = 9223372036854775808 := rfl
  have e2 : double.binade = 4503599627370496 := rfl
  have e3 : double.infRung = 9218868437227405312 := rfl
  simp only [e1, e2, e3]
  rw [if_neg (by omega), if_neg (by omega), if_neg (by omega)]
  exact ⟨_, _, rfl⟩

theorem compare_int (a b : Int) : compare a b = if a < b then .lt else if a = b then .eq else .gt := rfl
theorem compare_scale (a b c d : Int) (h1 : a < b ↔ c < d) (h2 : a = b ↔ c = d) : compare a b = compare c d := by
  rw [compare_int, compare_int]; simp only [h1, h2]

def sval (s : Bool) (r : Nat) : Int := if s then -(val r : Int) else val r

theorem signed_scale (s : Bool) (r k : Nat) (hk : k ≤ ex r) : signed s (mag r) (ex r - k) * (2 ^ k : Nat) = sval s r := by
  have : mag r <<< (ex r - k) * 2 ^ k = val r := by
    rw [Nat.shiftLeft_eq, Nat.mul_assoc, ← Nat.pow_add, Nat.sub_add_cancel hk]; rfl
  unfold signed sval
  cases s
  · simp only [Bool.false_eq_true, if_false]; exact_mod_cast this
  · simp only [if_true]; rw [Int.neg_mul]; congr 1; exact_mod_cast this

theorem order_val (s t : Bool) (x y : Nat) : Datum.order (.number s (mag x) (double.leastPlace + (ex x : Nat))) (.number t (mag y) (double.leastPlace + (ex y : Nat))) = some (compare (sval s x) (sval t y)) := by
  unfold Datum.order
  simp only
  have e1 : (double.leastPlace + (ex x : Nat) - min (double.leastPlace + (ex x : Nat)) (double.leastPlace + (ex y : Nat))).toNat = ex x - min (ex x) (ex y) := by omega
  have e2 : (double.leastPlace + (ex y : Nat) - min (double.leastPlace + (ex x : Nat)) (double.leastPlace + (ex y : Nat))).toNat = ex y - min (ex x) (ex y) := by omega
  rw [e1, e2]
  have h1 := signed_scale s x (min (ex x) (ex y)) (Nat.min_le_left _ _)
  have h2 := signed_scale t y (min (ex x) (ex y)) (Nat.min_le_right _ _)
  have hp : (0 : Int) < ((2 ^ min (ex x) (ex y) : Nat) : Int) := by exact_mod_cast Nat.two_pow_pos _
  rw [← h1, ← h2]
  congr 1
  refine compare_scale _ _ _ _ ?_ ?_
  · exact (Int.mul_lt_mul_right hp).symm
  · exact (Int.mul_eq_mul_right_iff (by omega)).symm

theorem compare_sval (s t : Bool) (x y : Nat) : compare (sval s x) (sval t y) = compare (if s then -(x : Int) else x) (if t then -(y : Int) else y) := by
  have h1 := val_lt_iff x y
  have h2 := val_lt_iff y x
  have h3 : 0 < val x ↔ 0 < x := by have := val_lt_iff 0 x; rw [val_zero] at this; exact this
  have h4 : 0 < val y ↔ 0 < y := by have := val_lt_iff 0 y; rw [val_zero] at this; exact this
  refine compare_scale _ _ _ _ ?_ ?_ <;> cases s <;> cases t <;> simp only [sval, if_true, Bool.false_eq_true, if_false] <;> omega

theorem lt_of_word {x : Nat} (_h : x < 18446744073709551616) : x % 9223372036854775808 < 9223372036854775808 := by omega

/-- Of two that are numbers. -/
theorem order_eq (x y : Nat) (hx : x % 9223372036854775808 ≤ 9218868437227405312) (hy : y % 9223372036854775808 ≤ 9218868437227405312) :
    double.order x y = some (compare (srung x) (srung y)) := by
  unfold Format.order
  by_cases ix : x % 9223372036854775808 = 9218868437227405312
  · rw [read_inf x ix]
    by_cases iy : y % 9223372036854775808 = 9218868437227405312
    · rw [read_inf y iy]
      unfold srung
      rw [ix, iy]
      by_cases sx : x / 9223372036854775808 % 2 = 1 <;> by_cases sy : y / 9223372036854775808 % 2 = 1 <;> simp only [sx, sy, decide_true, decide_false, Datum.order, if_true, if_false] <;> rfl
    · rw [read_num y (by omega)]
      unfold srung
      rw [ix]
      by_cases sx : x / 9223372036854775808 % 2 = 1
      · simp only [sx, decide_true, Datum.order, if_true]
        rw [compare_int, if_pos (by split <;> omega)]
      · simp only [sx, decide_false, Datum.order, if_false, Bool.false_eq_true]
        rw [compare_int, if_neg (by split <;> omega), if_neg (by split <;> omega)]
  · rw [read_num x (by omega)]
    by_cases iy : y % 9223372036854775808 = 9218868437227405312
    · rw [read_inf y iy]
      unfold srung
      rw [iy]
      by_cases sy : y / 9223372036854775808 % 2 = 1
      · simp only [sy, decide_true, Datum.order, if_true]
        rw [compare_int, if_neg (by split <;> omega), if_neg (by split <;> omega)]
      · simp only [sy, decide_false, Datum.order, if_false, Bool.false_eq_true]
        rw [compare_int, if_pos (by split <;> omega)]
    · rw [read_num y (by omega), order_val, compare_sval]
      unfold srung
      congr 2
      · by_cases sx : x / 9223372036854775808 % 2 = 1 <;> simp only [sx, decide_true, decide_false, if_true, if_false, Bool.false_eq_true]
      · by_cases sy : y / 9223372036854775808 % 2 = 1 <;> simp only [sy, decide_true, decide_false, if_true, if_false, Bool.false_eq_true]
theorem order_nan_left (x y : Nat) (h : 9218868437227405312 < x % 9223372036854775808) : double.order x y = none := by
  obtain ⟨s, t, e⟩ := read_nan x h
  unfold Format.order; rw [e]; cases double.read y <;> rfl
theorem order_nan_right (x y : Nat) (h : 9218868437227405312 < y % 9223372036854775808) : double.order x y = none := by
  obtain ⟨s, t, e⟩ := read_nan y h
  unfold Format.order; rw [e]; cases double.read x <;> rfl
end Go.Proofs.Ytepigofpcjmddaa.Flt

namespace Go.Proofs.Ytepigofpcjmddaa.Top
open Go

theorem and_top (a : Nat) (h : a < 18446744073709551616) : a &&& 9223372036854775808 = a / 9223372036854775808 * 9223372036854775808 := by
  apply Nat.eq_of_testBit_eq
  intro i
  rw [Nat.testBit_and, show (9223372036854775808 : Nat) = 2 ^ 63 by decide, Nat.testBit_two_pow]
  have hc : a / 2 ^ 63 = 0 ∨ a / 2 ^ 63 = 1 := by rw [show (2 : Nat) ^ 63 = 9223372036854775808 by decide]; omega
  have ht : a.testBit 63 = decide (a / 2 ^ 63 % 2 = 1) := Nat.testBit_eq_decide_div_mod_eq
  rcases hc with h0 | h0
  · rw [h0, Nat.zero_mul, Nat.zero_testBit]
    by_cases hi : 63 = i
    · subst hi; rw [ht, h0]; rfl
    · simp [hi]
  · rw [h0, Nat.one_mul, Nat.testBit_two_pow]
    by_cases hi : 63 = i
    · subst hi; rw [ht, h0]; rfl
    · simp [hi]
theorem or_top (a : Nat) (h : a < 9223372036854775808) : a ||| 9223372036854775808 = a + 9223372036854775808 := by
  have e := Nat.two_pow_add_eq_or_of_lt (i := 63) (b := a) (by rw [show (2 : Nat) ^ 63 = 9223372036854775808 by decide]; exact h) 1
  rw [show (2 : Nat) ^ 63 = 9223372036854775808 by decide] at e
  rw [Nat.or_comm]; simp at e; omega
theorem xor_top_lo (a : Nat) (h : a < 9223372036854775808) : a ^^^ 9223372036854775808 = a + 9223372036854775808 := by
  rw [← or_top a h]
  apply Nat.eq_of_testBit_eq
  intro i
  rw [Nat.testBit_xor, Nat.testBit_or, show (9223372036854775808 : Nat) = 2 ^ 63 by decide, Nat.testBit_two_pow]
  by_cases hi : 63 = i
  · subst hi
    rw [Nat.testBit_lt_two_pow (by rw [show (2 : Nat) ^ 63 = 9223372036854775808 by decide]; exact h)]; rfl
  · simp [hi]
theorem xor_top_hi (a : Nat) (h : 9223372036854775808 ≤ a) (h2 : a < 18446744073709551616) : a ^^^ 9223372036854775808 = a - 9223372036854775808 := by
  have e := xor_top_lo (a - 9223372036854775808) (by omega)
  rw [show a - 9223372036854775808 + 9223372036854775808 = a by omega] at e
  generalize a - 9223372036854775808 = b at *
  rw [← e, Nat.xor_assoc, Nat.xor_self, Nat.xor_zero]
theorem andNot_top (a : Nat) : a &&& (18446744073709551615 - 9223372036854775808) = a % 9223372036854775808 := by
  have e := Nat.and_two_pow_sub_one_eq_mod a 63
  rw [show (2 : Nat) ^ 63 = 9223372036854775808 by decide] at e
  exact e

theorem u64_and_top (x : Int) (h0 : 0 ≤ x) (h1 : x < 18446744073709551616) : bits .and .u64 x 9223372036854775808 = x / 9223372036854775808 * 9223372036854775808 := by
  rw [u64_and x _ h0 h1 (by decide) (by decide), show (9223372036854775808 : Int).toNat = 9223372036854775808 from rfl, and_top _ (by omega)]; omega
theorem u64_or_top (x : Int) (h0 : 0 ≤ x) (h1 : x < 9223372036854775808) : bits .or .u64 x 9223372036854775808 = x + 9223372036854775808 := by
  rw [u64_or x _ h0 (by omega) (by decide) (by decide), show (9223372036854775808 : Int).toNat = 9223372036854775808 from rfl, or_top _ (by omega)]; omega
theorem u64_xor_lo (x : Int) (h0 : 0 ≤ x) (h1 : x < 9223372036854775808) : bits .xor .u64 x 9223372036854775808 = x + 9223372036854775808 := by
  rw [u64_xor x _ h0 (by omega) (by decide) (by decide), show (9223372036854775808 : Int).toNat = 9223372036854775808 from rfl, xor_top_lo _ (by omega)]; omega
theorem u64_xor_hi (x : Int) (h0 : 9223372036854775808 ≤ x) (h1 : x < 18446744073709551616) : bits .xor .u64 x 9223372036854775808 = x - 9223372036854775808 := by
  rw [u64_xor x _ (by omega) (by omega) (by decide) (by decide), show (9223372036854775808 : Int).toNat = 9223372036854775808 from rfl, xor_top_hi _ (by omega) (by omega)]; omega
theorem u64_not_top (x : Int) (h0 : 0 ≤ x) (h1 : x < 18446744073709551616) : bits .andNot .u64 x 9223372036854775808 = x % 9223372036854775808 := by
  rw [u64_andNot x _ h0 h1 (by decide) (by decide), show (9223372036854775808 : Int).toNat = 9223372036854775808 from rfl, andNot_top]; omega
theorem u64_flip (x : Int) (h0 : 0 ≤ x) (h1 : x < 18446744073709551616) : bits .xor .u64 IntKind.u64.max x = 18446744073709551615 - x := by
  rw [u64_xor _ x (by decide) (by decide) h0 h1, show (IntKind.u64.max).toNat = 2 ^ 64 - 1 from rfl]
  obtain ⟨n, rfl⟩ := Int.eq_ofNat_of_zero_le h0
  have hn : n < 2 ^ 64 := by rw [show (2 : Nat) ^ 64 = 18446744073709551616 by decide]; omega
  have e : (2 ^ 64 - 1) ^^^ n = 2 ^ 64 - 1 - n := by
    apply Nat.eq_of_testBit_eq
    intro i
    have e1 : 2 ^ 64 - 1 - n = 2 ^ 64 - (n + 1) := by omega
    rw [e1, Nat.testBit_two_pow_sub_succ hn, Nat.testBit_xor, Nat.testBit_two_pow_sub_one]
    by_cases hi : i < 64
    · simp [hi]
    · simp [hi]
      exact Nat.testBit_lt_two_pow (Nat.lt_of_lt_of_le hn (Nat.pow_le_pow_right (by decide) (by omega)))
  rw [Int.toNat_natCast, e]
  have : (2 : Nat) ^ 64 = 18446744073709551616 := by decide
  omega
end Go.Proofs.Ytepigofpcjmddaa.Top

namespace Go.Proofs.Ytepigofpcjmddaa
open Go.RowKit

/-- A number of bits as an integer, and back. -/
def ni (n : Nat) : Int := n
def nf (x : Int) : Nat := x.toNat
theorem ni_nf {x : Int} (h : 0 ≤ x) : ni (nf x) = x := Int.toNat_of_nonneg h
theorem nf_ni (n : Nat) : nf (ni n) = n := rfl

/-- Not a number. -/
def nanB (n : Nat) : Bool := decide (9218868437227405312 < n % 9223372036854775808)
theorem nanB_order (n : Nat) : (FloatKind.f64.format.order n n != some Ordering.eq) = nanB n := by
  show (Ieee.double.order n n != some Ordering.eq) = _
  unfold nanB
  by_cases h : 9218868437227405312 < n % 9223372036854775808
  · rw [Flt.order_nan_left n n h, decide_eq_true h]; rfl
  · rw [Flt.order_eq n n (by omega) (by omega), decide_eq_false h, Flt.compare_int, if_neg (by omega), if_pos rfl]; rfl

theorem run_bits (n : Nat) (w : World) : (callFunc 51 #[.float .f64 n]).run Try.prog w = .ok (.value (.int .u64 (ni n))) w := by
  rw [run_callFunc_extern (e := Extern.MathFloatBits.float64bits) Try.func51 (by kernel_rfl) (by kernel_rfl) (by kernel_rfl) (by kernel_rfl)]
  rfl
theorem run_frombits (x : Int) (w : World) : (callFunc 84 #[.int .u64 x]).run Try.prog w = .ok (.value (.float .f64 (nf x))) w := by
  rw [run_callFunc_extern (e := Extern.MathFloatBits.float64frombits) Try.func84 (by kernel_rfl) (by kernel_rfl) (by kernel_rfl) (by kernel_rfl)]
  rfl

theorem cisNaN64_any (x : Int) (w : World) : Calls Try.prog 121 #[.int .u64 x] w fun e w' => e = .returned (.bool false) ∧ w' = w := by
  go_enter Try.func121, Try.ntmps121
  go_wp2
  go_ret
  exact ⟨rfl, rfl⟩

theorem isNaN_any (n : Nat) (w : World) : Calls Try.prog 115 #[.float .f64 n] w fun e w' => e = .returned (.bool (nanB n)) ∧ w' = w := by
  go_enter Try.func115, Try.ntmps115
  have h := nanB_order n
  go_wp2
  go_ret
  exact ⟨rfl, rfl⟩

/-- Canonical bits. -/
def cbits (n : Nat) : Nat := if nanB n = true then 9221120237041090560 else n
theorem cbits_nan {n : Nat} (h : nanB n = true) : cbits n = 9221120237041090560 := if_pos h
theorem cbits_num {n : Nat} (h : nanB n = false) : cbits n = n := if_neg (by rw [h]; decide)
theorem cbits_lt {n : Nat} (h : n < 18446744073709551616) : cbits n < 18446744073709551616 := by
  unfold cbits; split <;> omega

theorem canon_any (n : Nat) (w : World) : Calls Try.prog 89 #[.float .f64 n] w fun e w' => e = .returned (.float .f64 (cbits n)) ∧ w' = w := by
  have h31 := run_frombits
  go_enter Try.func89, Try.ntmps89
  go_wp2_with (go_at_call 115; refine (isNaN_any _ _).mono ?_; rintro e w' ⟨rfl, rfl⟩)
  · have h : nanB n = true := by assumption
    go_ret
    exact ⟨by rw [cbits_nan h]; rfl, rfl⟩
  · have h : nanB n = false := by assumption
    go_ret
    exact ⟨by rw [cbits_num h]; rfl, rfl⟩

theorem canonBits_any (n : Nat) (w : World) : Calls Try.prog 140 #[.float .f64 n] w fun e w' => e = .returned (.int .u64 (ni (cbits n))) ∧ w' = w := by
  have h15 := run_bits
  go_enter Try.func140, Try.ntmps140
  go_wp2_with (go_at_call 89; refine (canon_any _ _).mono ?_; rintro e w' ⟨rfl, rfl⟩)
  go_ret
  exact ⟨rfl, rfl⟩

/-- The key of canonical bits. -/
def keyI (x : Int) : Int := if x < 9223372036854775808 then x + 9223372036854775808 else 18446744073709551615 - x
theorem keyI_lo {x : Int} (h : x < 9223372036854775808) : keyI x = x + 9223372036854775808 := if_pos h
theorem keyI_hi {x : Int} (h : ¬ x < 9223372036854775808) : keyI x = 18446744073709551615 - x := if_neg h
def key (n : Nat) : Int := keyI (ni (cbits n))
theorem ni_rng {n : Nat} (h : n < 18446744073709551616) : 0 ≤ ni n ∧ ni n < 18446744073709551616 := by unfold ni; omega
theorem key_rng {n : Nat} (h : n < 18446744073709551616) : 0 ≤ key n ∧ key n < 18446744073709551616 := by
  have := ni_rng (cbits_lt h)
  unfold key keyI; split <;> omega

theorem key_any (n : Nat) (w : World) (hn : n < 18446744073709551616) : Calls Try.prog 118 #[.float .f64 n] w fun e w' => e = .returned (.int .u64 (key n)) ∧ w' = w := by
  obtain ⟨x, hx⟩ : ∃ x, ni (cbits n) = x := ⟨_, rfl⟩
  have hr := ni_rng (cbits_lt hn)
  have hk : key n = keyI x := by unfold key; rw [hx]
  rw [hx] at hr
  rw [hk]
  obtain ⟨hx0, hx1⟩ := hr
  have ha := Top.u64_and_top x hx0 hx1
  by_cases hl : x < 9223372036854775808
  · have h0 : bits .and .u64 x 9223372036854775808 = 0 := by rw [ha]; omega
    rw [keyI_lo hl, ← Top.u64_or_top x hx0 hl]
    clear ha hk
    go_enter Try.func118, Try.ntmps118
    go_wp2_with (go_at_call 140; refine (canonBits_any _ _).mono ?_; rw [hx]; rintro e w' ⟨rfl, rfl⟩)
    go_ret
    exact ⟨rfl, rfl⟩
  · have h0 : bits .and .u64 x 9223372036854775808 = 9223372036854775808 := by rw [ha]; omega
    rw [keyI_hi hl, ← Top.u64_flip x hx0 hx1]
    clear ha hk
    go_enter Try.func118, Try.ntmps118
    go_wp2_with (go_at_call 140; refine (canonBits_any _ _).mono ?_; rw [hx]; rintro e w' ⟨rfl, rfl⟩)
    go_ret
    exact ⟨rfl, rfl⟩

/-- How two integers stand. -/
def cmpI (x y : Int) : Int := if x < y then -1 else if y < x then 1 else 0
theorem cmpI_lt {x y : Int} (h : x < y) : cmpI x y = -1 := if_pos h
theorem cmpI_gt {x y : Int} (h : y < x) : cmpI x y = 1 := by unfold cmpI; rw [if_neg (by omega), if_pos h]
theorem cmpI_eq {x y : Int} (h : x = y) : cmpI x y = 0 := by unfold cmpI; rw [if_neg (by omega), if_neg (by omega)]
theorem cmpI_rng (x y : Int) : -1 ≤ cmpI x y ∧ cmpI x y ≤ 1 := by unfold cmpI; split <;> (try split) <;> omega
theorem cmpI_neg (x y : Int) : cmpI y x = - cmpI x y := by unfold cmpI; split <;> split <;> (try split) <;> omega
theorem cmpI_le (x y : Int) : cmpI x y ≤ 0 ↔ x ≤ y := by unfold cmpI; split <;> (try split) <;> omega
theorem cmpI_zero (x y : Int) : cmpI x y = 0 ↔ x = y := by unfold cmpI; split <;> (try split) <;> omega
theorem cmpI_neg_iff (x y : Int) : cmpI x y < 0 ↔ x < y := by unfold cmpI; split <;> (try split) <;> omega
theorem cmpI_pos_iff (x y : Int) : 0 < cmpI x y ↔ y < x := by unfold cmpI; split <;> (try split) <;> omega
theorem cmpI_mone (x y : Int) : cmpI x y = -1 ↔ x < y := by unfold cmpI; split <;> (try split) <;> omega

theorem compare64_any (x y : Int) (w : World) : Calls Try.prog 100 #[.int .u64 x, .int .u64 y] w fun e w' => e = .returned (.int .i64 (cmpI x y)) ∧ w' = w := by
  have hc := cisNaN64_any
  rcases Int.lt_trichotomy x y with h | h | h
  · rw [cmpI_lt h]
    go_enter Try.func100, Try.ntmps100
    go_wp2_with (go_at_call 121; refine (cisNaN64_any _ _).mono ?_; rintro e w' ⟨rfl, rfl⟩)
    go_ret
    exact ⟨rfl, rfl⟩
  · rw [cmpI_eq h]
    subst h
    go_enter Try.func100, Try.ntmps100
    go_wp2_with (go_at_call 121; refine (cisNaN64_any _ _).mono ?_; rintro e w' ⟨rfl, rfl⟩)
    go_ret
    exact ⟨rfl, rfl⟩
  · rw [cmpI_gt h]
    have h' : ¬ x < y := by omega
    go_enter Try.func100, Try.ntmps100
    go_wp2_with (go_at_call 121; refine (cisNaN64_any _ _).mono ?_; rintro e w' ⟨rfl, rfl⟩)
    go_ret
    exact ⟨rfl, rfl⟩

theorem cmp_any (m n : Nat) (w : World) (hm : m < 18446744073709551616) (hn : n < 18446744073709551616) :
    Calls Try.prog 94 #[.float .f64 m, .float .f64 n] w fun e w' => e = .returned (.int .i64 (cmpI (key m) (key n))) ∧ w' = w := by
  go_enter Try.func94, Try.ntmps94
  go_wp2_with (first
    | (go_at_call 118; refine (key_any _ _ (by assumption)).mono ?_; rintro e w' ⟨rfl, rfl⟩)
    | (go_at_call 100; refine (compare64_any _ _ _).mono ?_; rintro e w' ⟨rfl, rfl⟩))
  go_ret
  exact ⟨rfl, rfl⟩

/-! The document's. -/
theorem rbits_any (x : Int) (w : World) (h0 : 0 ≤ x) (h1 : x < 18446744073709551616) : Calls Try.prog 86 #[.int .u64 x] w fun e w' => e = .returned (.int .u64 (ni (cbits (nf x)))) ∧ w' = w := by
  by_cases h : 9218868437227405312 < x % 9223372036854775808
  · have hb : nanB (nf x) = true := by unfold nanB nf; exact decide_eq_true (by omega)
    rw [cbits_nan hb]
    go_enter Try.func86, Try.ntmps86
    go_wp2
    go_ret
    exact ⟨rfl, rfl⟩
  · have hb : nanB (nf x) = false := by unfold nanB nf; exact decide_eq_false (by omega)
    rw [cbits_num hb, ni_nf h0]
    go_enter Try.func86, Try.ntmps86
    go_wp2
    go_ret
    exact ⟨rfl, rfl⟩

theorem nf_lt {x : Int} (h1 : x < 18446744073709551616) : nf x < 18446744073709551616 := by unfold nf; omega

theorem rkey_any (x : Int) (w : World) (h0 : 0 ≤ x) (h1 : x < 18446744073709551616) : Calls Try.prog 114 #[.int .u64 x] w fun e w' => e = .returned (.int .u64 (key (nf x))) ∧ w' = w := by
  obtain ⟨y, hy⟩ : ∃ y, ni (cbits (nf x)) = y := ⟨_, rfl⟩
  have hr := ni_rng (cbits_lt (nf_lt h1))
  have hk : key (nf x) = keyI y := by unfold key; rw [hy]
  rw [hy] at hr
  rw [hk]
  obtain ⟨hy0, hy1⟩ := hr
  clear hk
  have hB : ∀ w, Calls Try.prog 86 #[.int .u64 x] w fun e w' => e = .returned (.int .u64 y) ∧ w' = w := fun w => by rw [← hy]; exact rbits_any x w h0 h1
  clear hy
  by_cases hl : y < 9223372036854775808
  · rw [keyI_lo hl]
    have hl' : ¬ 9223372036854775808 ≤ y := by omega
    go_enter Try.func114, Try.ntmps114
    go_wp2_with (go_at_call 86; refine (hB _).mono ?_; rintro e w' ⟨rfl, rfl⟩)
    go_ret
    exact ⟨rfl, rfl⟩
  · rw [keyI_hi hl]
    have hl' : 9223372036854775808 ≤ y := by omega
    go_enter Try.func114, Try.ntmps114
    go_wp2_with (go_at_call 86; refine (hB _).mono ?_; rintro e w' ⟨rfl, rfl⟩)
    go_ret
    exact ⟨rfl, rfl⟩

theorem rcmp_any (x y : Int) (w : World) (h0 : 0 ≤ x) (h1 : x < 18446744073709551616) (h2 : 0 ≤ y) (h3 : y < 18446744073709551616) :
    Calls Try.prog 85 #[.int .u64 x, .int .u64 y] w fun e w' => e = .returned (.int .i64 (cmpI (key (nf x)) (key (nf y)))) ∧ w' = w := by
  obtain ⟨kk, hkk⟩ : ∃ kk : Int → Int, ∀ z, key (nf z) = kk z := ⟨_, fun _ => rfl⟩
  rw [hkk, hkk]
  have hR : ∀ z w, (z = x ∨ z = y) → Calls Try.prog 114 #[.int .u64 z] w fun e w' => e = .returned (.int .u64 (kk z)) ∧ w' = w := by
    rintro z w (rfl | rfl)
    · rw [← hkk]; exact rkey_any _ w h0 h1
    · rw [← hkk]; exact rkey_any _ w h2 h3
  clear h0 h1 h2 h3 hkk
  rcases Int.lt_trichotomy (kk x) (kk y) with h | h | h
  · rw [cmpI_lt h]
    go_enter Try.func85, Try.ntmps85
    go_wp2_with (go_at_call 114; refine (hR _ _ (by first | exact .inl rfl | exact .inr rfl)).mono ?_; rintro e w' ⟨rfl, rfl⟩)
    go_ret
    exact ⟨rfl, rfl⟩
  · rw [cmpI_eq h]
    go_enter Try.func85, Try.ntmps85
    go_wp2_with (go_at_call 114; refine (hR _ _ (by first | exact .inl rfl | exact .inr rfl)).mono ?_; rintro e w' ⟨rfl, rfl⟩)
    go_ret
    exact ⟨rfl, rfl⟩
  · rw [cmpI_gt h]
    have h' : decide (kk x < kk y) = false := decide_eq_false (by omega)
    go_enter Try.func85, Try.ntmps85
    go_wp2_with (go_at_call 114; refine (hR _ _ (by first | exact .inl rfl | exact .inr rfl)).mono ?_; rintro e w' ⟨rfl, rfl⟩)
    go_ret
    exact ⟨rfl, rfl⟩

theorem f_any (x : Int) (w : World) : Calls Try.prog 43 #[.int .u64 x] w fun e w' => e = .returned (.float .f64 (nf x)) ∧ w' = w := by
  have h31 := run_frombits
  go_enter Try.func43, Try.ntmps43
  go_wp2
  go_ret
  exact ⟨rfl, rfl⟩

def infN (s : Int) : Nat := if 0 ≤ s then 9218868437227405312 else 18442240474082181120
theorem infN_pos : infN 1 = 9218868437227405312 := rfl
theorem infN_neg : infN (-1) = 18442240474082181120 := rfl
end Go.Proofs.Ytepigofpcjmddaa

namespace Go.Proofs.Ytepigofpcjmddaa.Hp
open Go Go.Sort
variable {α : Type} [Inhabited α] (lt : α → α → Bool)

def Child (c p : Nat) : Prop := c = 2 * p + 1 ∨ c = 2 * p + 2
/-- All parents from k on have no lesser child. -/
def Heap (d : Array α) (n k : Nat) : Prop := ∀ p c, k ≤ p → Child c p → c < n → lt d[c]! d[p]! = false
/-- The same but at i, whose parent is no greater than its children. -/
structure Down (d : Array α) (n k i : Nat) : Prop where
  ok : ∀ p c, k ≤ p → p ≠ i → Child c p → c < n → lt d[c]! d[p]! = false
  up : ∀ p c, k ≤ p → Child i p → Child c i → c < n → lt d[c]! d[p]! = false
  le : k ≤ i
/-- All but j against its parent. -/
structure Up (d : Array α) (n j : Nat) : Prop where
  ok : ∀ p c, c ≠ j → Child c p → c < n → lt d[c]! d[p]! = false
  up : ∀ p c, Child j p → Child c j → c < n → lt d[c]! d[p]! = false

variable {lt}
theorem asym {β : Type} {lt : β → β → Bool} (hS : SWO lt) {x y : β} (h : lt x y = true) : lt y x = false := by
  cases e : lt y x
  · rfl
  · have := hS.trans x y x h e; rw [hS.irrefl] at this; cases this

theorem Down.start {d : Array α} {n k : Nat} (h : Heap lt d n (k + 1)) : Down lt d n k k :=
  ⟨fun p c hp hne hc hn => h p c (by omega) hc hn, fun p c hp hc => by unfold Child at hc; omega, Nat.le_refl _⟩
theorem Down.done {d : Array α} {n k i : Nat} (h : Down lt d n k i) (hi : n ≤ 2 * i + 1) : Heap lt d n k := by
  intro p c hp hc hn
  by_cases e : p = i
  · subst e; unfold Child at hc; omega
  · exact h.ok p c hp e hc hn
/-- c is the lesser child. -/
structure Least (lt : α → α → Bool) (d : Array α) (n i c : Nat) : Prop where
  child : Child c i
  inn : c < n
  le : ∀ o, Child o i → o < n → lt d[o]! d[c]! = false
theorem Down.stop (hS : SWO lt) {d : Array α} {n k i c : Nat} (h : Down lt d n k i) (hc : Least lt d n i c) (hl : lt d[c]! d[i]! = false) : Heap lt d n k := by
  intro p o hp ho hn
  by_cases e : p = i
  · subst e; exact hS.ntrans _ _ _ (hc.le o ho hn) hl
  · exact h.ok p o hp e ho hn
theorem Down.step (hS : SWO lt) {d : Array α} {n k i c : Nat} (h : Down lt d n k i) (hc : Least lt d n i c) (hl : lt d[c]! d[i]! = true) (hn : n ≤ d.size) : Down lt (swp d i c) n k c := by
  have hci : c ≠ i := by have := hc.child; unfold Child at this; omega
  have hcn := hc.inn
  have hcc := hc.child
  have hin : i < n := by unfold Child at hcc; omega
  have e1 : (swp d i c)[i]! = d[c]! := swp_left d i c (by omega) (by omega)
  have e2 : (swp d i c)[c]! = d[i]! := swp_right d i c (by omega)
  have e3 : ∀ x, x ≠ i → x ≠ c → (swp d i c)[x]! = d[x]! := fun x h1 h2 => swp_other d i c x h1 h2
  refine ⟨fun p o hp hpc ho hon => ?_, fun p o hp hcp ho hon => ?_, ?_⟩
  · by_cases ei : p = i
    · subst ei
      by_cases eo : o = c
      · subst eo; rw [e1, e2]; exact asym hS hl
      · have : o ≠ p := by unfold Child at ho; omega
        rw [e1, e3 o this eo]; exact hc.le o ho hon
    · rw [e3 p ei hpc]
      by_cases eo : o = i
      · subst eo; rw [e1]; exact h.up p c hp ho hc.child hc.inn
      · by_cases eo2 : o = c
        · subst eo2; exfalso; unfold Child at ho hcc; omega
        · rw [e3 o eo eo2]; exact h.ok p o hp ei ho hon
  · have ep : p = i := by unfold Child at hcp hcc; omega
    subst ep
    have o1 : o ≠ p := by unfold Child at ho hcc; omega
    have o2 : o ≠ c := by unfold Child at ho; omega
    rw [e1, e3 o o1 o2]
    exact h.ok c o (by have := h.le; unfold Child at hcc; omega) hci ho hon
  · have := h.le; unfold Child at hcc; omega

theorem Up.start {d : Array α} {n : Nat} (h : Heap lt d n 0) (x : α) (hn : n = d.size) : Up lt (d.push x) (n + 1) n := by
  refine ⟨fun p c hc hcp hcn => ?_, fun p c hp hc hcn => by unfold Child at hc; omega⟩
  have h1 : c < d.size := by omega
  have h2 : p < d.size := by unfold Child at hcp; omega
  have e : ∀ i, i < d.size → (d.push x)[i]! = d[i]! := fun i hi => by
    rw [getElem!_pos (d.push x) i (by simp; omega), getElem!_pos d i hi, Array.getElem_push_lt hi]
  rw [e c h1, e p h2]
  exact h p c (Nat.zero_le _) hcp (by omega)
theorem Up.top {d : Array α} {n : Nat} (h : Up lt d n 0) : Heap lt d n 0 := fun p c _ hc hn => h.ok p c (by unfold Child at hc; omega) hc hn
theorem Up.stop {d : Array α} {n j i : Nat} (h : Up lt d n j) (hi : Child j i) (hl : lt d[j]! d[i]! = false) : Heap lt d n 0 := by
  intro p c _ hc hn
  by_cases e : c = j
  · subst e
    have : p = i := by unfold Child at hc hi; omega
    subst this; exact hl
  · exact h.ok p c e hc hn
theorem Up.step (hS : SWO lt) {d : Array α} {n j i : Nat} (h : Up lt d n j) (hi : Child j i) (hl : lt d[j]! d[i]! = true) (hj : j < n) (hn : n ≤ d.size) : Up lt (swp d i j) n i := by
  have hij : i ≠ j := by unfold Child at hi; omega
  have hil : i < n := by unfold Child at hi; omega
  have e1 : (swp d i j)[i]! = d[j]! := swp_left d i j (by omega) hij
  have e2 : (swp d i j)[j]! = d[i]! := swp_right d i j (by omega)
  have e3 : ∀ x, x ≠ i → x ≠ j → (swp d i j)[x]! = d[x]! := fun x h1 h2 => swp_other d i j x h1 h2
  refine ⟨fun p c hci hc hcn => ?_, fun p c hp hc hcn => ?_⟩
  · by_cases ej : c = j
    · subst ej
      have : p = i := by unfold Child at hc hi; omega
      subst this
      rw [e1, e2]; exact asym hS hl
    · rw [e3 c hci ej]
      by_cases ep : p = i
      · subst ep
        rw [e1]
        have hh := h.ok p c ej hc hcn
        cases e : lt d[c]! d[j]!
        · rfl
        · have := hS.trans _ _ _ e hl; rw [hh] at this; cases this
      · by_cases ep2 : p = j
        · subst ep2; rw [e2]; exact h.up i c hi hc hcn
        · rw [e3 p ep ep2]; exact h.ok p c ej hc hcn
  · have p1 : p ≠ i := by unfold Child at hp; omega
    have p2 : p ≠ j := by unfold Child at hp hi; omega
    rw [e3 p p1 p2]
    have hip := h.ok p i hij hp hil
    by_cases ej : c = j
    · subst ej; rw [e2]; exact hip
    · have c1 : c ≠ i := by unfold Child at hc; omega
      rw [e3 c c1 ej]
      exact hS.ntrans _ _ _ (h.ok i c ej hc hcn) hip

/-- The first one is least. -/
theorem Heap.first (hS : SWO lt) {d : Array α} {n : Nat} (h : Heap lt d n 0) : ∀ i, i < n → lt d[i]! d[0]! = false := by
  intro i
  induction i using Nat.strongRecOn with
  | ind i ih =>
    intro hi
    by_cases e : i = 0
    · subst e; exact hS.irrefl _
    · have hc : Child i ((i - 1) / 2) := by unfold Child; omega
      exact hS.ntrans _ _ _ (h _ _ (Nat.zero_le _) hc hi) (ih ((i - 1) / 2) (by omega) (by omega))
theorem Heap.mono {d : Array α} {n m k : Nat} (h : Heap lt d n k) (hm : m ≤ n) : Heap lt d m k := fun p c hp hc hn => h p c hp hc (by omega)
theorem Heap.none {d : Array α} {n k : Nat} (h : n ≤ 2 * k + 1) : Heap lt d n k := fun p c hp hc hn => by unfold Child at hc; omega
/-- After the first and the last one are exchanged. -/
theorem Heap.swapped {d : Array α} {n : Nat} (h : Heap lt d (n + 1) 0) : Heap lt (swp d 0 n) n 1 := by
  intro p c hp hc hcn
  have h1 : c ≠ 0 := by unfold Child at hc; omega
  rw [swp_other d 0 n c h1 (by omega), swp_other d 0 n p (by omega) (by unfold Child at hc; omega)]
  exact h p c (Nat.zero_le _) hc (by omega)

theorem swp_perm (d : Array α) (i j : Nat) (hi : i < d.size) (hj : j < d.size) : (swp d i j).toList.Perm d.toList := by
  have := swp_permIn d 0 d.size i j (Nat.zero_le _) hi (Nat.zero_le _) hj (Nat.le_refl _)
  have h2 := this.2.2
  have e : (swp d i j).extract 0 d.size = swp d i j := by rw [← size_swp d i j]; exact Array.extract_size
  rw [e, Array.extract_size] at h2
  exact h2
end Go.Proofs.Ytepigofpcjmddaa.Hp

namespace Go.Proofs.Ytepigofpcjmddaa
open Go.RowKit Go.Sort

theorem cisNaNi_any (x : Int) (w : World) : Calls Try.prog 119 #[.int .i64 x] w fun e w' => e = .returned (.bool false) ∧ w' = w := by
  go_enter Try.func119, Try.ntmps119
  go_wp2
  go_ret
  exact ⟨rfl, rfl⟩
theorem comparei_any (x y : Int) (w : World) : Calls Try.prog 95 #[.int .i64 x, .int .i64 y] w fun e w' => e = .returned (.int .i64 (cmpI x y)) ∧ w' = w := by
  rcases Int.lt_trichotomy x y with h | h | h
  · rw [cmpI_lt h]
    go_enter Try.func95, Try.ntmps95
    go_wp2_with (go_at_call 119; refine (cisNaNi_any _ _).mono ?_; rintro e w' ⟨rfl, rfl⟩)
    go_ret
    exact ⟨rfl, rfl⟩
  · rw [cmpI_eq h]
    subst h
    go_enter Try.func95, Try.ntmps95
    go_wp2_with (go_at_call 119; refine (cisNaNi_any _ _).mono ?_; rintro e w' ⟨rfl, rfl⟩)
    go_ret
    exact ⟨rfl, rfl⟩
  · rw [cmpI_gt h]
    have h' : ¬ x < y := by omega
    go_enter Try.func95, Try.ntmps95
    go_wp2_with (go_at_call 119; refine (cisNaNi_any _ _).mono ?_; rintro e w' ⟨rfl, rfl⟩)
    go_ret
    exact ⟨rfl, rfl⟩


/-- How two items stand, by bits. -/
def cmpN (m : Nat) (a : Int) (n : Nat) (b : Int) : Int := if cmpI (key m) (key n) = 0 then cmpI a b else cmpI (key m) (key n)
theorem cmpN_same {m n : Nat} (h : cmpI (key m) (key n) = 0) (a b : Int) : cmpN m a n b = cmpI a b := if_pos h
theorem cmpN_other {m n : Nat} (h : ¬ cmpI (key m) (key n) = 0) (a b : Int) : cmpN m a n b = cmpI (key m) (key n) := if_neg h

/-- An item in a box. -/
abbrev boxI (m : Nat) (a : Int) : Obj := .cells #[.float .f64 m, .int .i64 a] 29

theorem icmp_any (m n : Nat) (a b : Int) (w : World) (hm : m < 18446744073709551616) (hn : n < 18446744073709551616) :
    Calls Try.prog 63 #[.agg #[.float .f64 m, .int .i64 a], .agg #[.float .f64 n, .int .i64 b]] w fun e w' => e = .returned (.int .i64 (cmpN m a n b)) ∧ w' = (w.alloc (boxI m a)).alloc (boxI n b) := by
  have hC := fun w => cmp_any m n w hm hn
  obtain ⟨c, hc⟩ : ∃ c, cmpI (key m) (key n) = c := ⟨_, rfl⟩
  by_cases h0 : c = 0
  · rw [cmpN_same (by rw [hc]; exact h0)]
    subst h0
    rw [hc] at hC
    clear hc hm hn
    go_enter Try.func63, Try.ntmps63
    go_wp2_with (first
      | (go_at_call 94; refine (hC _).mono ?_; rintro e w1 ⟨rfl, hw1⟩; replace hw1 := hw1.symm; subst hw1)
      | (go_at_call 95; refine (comparei_any _ _ _).mono ?_; rintro e w1 ⟨rfl, hw1⟩; replace hw1 := hw1.symm; subst hw1))
    go_ret
    exact ⟨rfl, rfl⟩
  · rw [cmpN_other (by rw [hc]; exact h0), hc]
    have hb : (c != 0) = true := by simpa using h0
    rw [hc] at hC
    clear hc hm hn
    go_enter Try.func63, Try.ntmps63
    go_wp2_with (first
      | (go_at_call 94; refine (hC _).mono ?_; rintro e w1 ⟨rfl, hw1⟩; replace hw1 := hw1.symm; subst hw1))
    go_ret
    exact ⟨rfl, rfl⟩

theorem icanon_any (m : Nat) (a : Int) (w : World) :
    Calls Try.prog 49 #[.agg #[.float .f64 m, .int .i64 a]] w fun e w' => e = .returned (.agg #[.float .f64 (cbits m), .int .i64 a]) ∧ Below w.heap.size w w' := by
  have hsf := run_store_float (P := Try.prog)
  go_enter Try.func49, Try.ntmps49
  go_wp2_with (go_at_call 89; refine (canon_any _ _).mono ?_; rintro e w1 ⟨rfl, hw1⟩; replace hw1 := hw1.symm; subst hw1)
  exact bodyPost_ret (v := .agg #[.float .f64 (cbits m), .int .i64 a]) (by simp [results, Try.results49, go_sem]) rfl ⟨rfl, ((Below.refl _ _).alloc (Nat.le_refl _) _).alloc (by simp) _⟩
end Go.Proofs.Ytepigofpcjmddaa
