/-
  A heap in an array: what sifting down and up keeps. Plain arrays.
-/
import Derived.Sort.Lot0
import Derived.Sort.LotA
namespace Go.Proofs.Ytepigofpcjmddaa.Hp
open Go Go.Sort
variable {α : Type} [Inhabited α] (lt : α → α → Bool)

def Child (c p : Nat) : Prop := c = 2 * p + 1 ∨ c = 2 * p + 2
/-- All parents from k on have no lesser child. -/
def Heap (d : Array α) (n k : Nat) : Prop := ∀ p c, k ≤ p → Child c p → c < n → lt d[c]! d[p]! = false
/-- The same but at i, whose parent is no greater than its children. -/
structure Down (d : Array α) (n k i : Nat) : Prop where
  ok : ∀ p c, k ≤ p → p ≠ i → Child c p → c < n → lt d[c]! d[p]! = false
  up : ∀ p c, k ≤ p → Child i p → Child c i → c < n → lt d[c]! d[p]! = false
  le : k ≤ i
/-- All but j against its parent. -/
structure Up (d : Array α) (n j : Nat) : Prop where
  ok : ∀ p c, c ≠ j → Child c p → c < n → lt d[c]! d[p]! = false
  up : ∀ p c, Child j p → Child c j → c < n → lt d[c]! d[p]! = false

variable {lt}
theorem asym {β : Type} {lt : β → β → Bool} (hS : SWO lt) {x y : β} (h : lt x y = true) : lt y x = false := by
  cases e : lt y x
  · rfl
  · have := hS.trans x y x h e; rw [hS.irrefl] at this; cases this

theorem Down.start {d : Array α} {n k : Nat} (h : Heap lt d n (k + 1)) : Down lt d n k k :=
  ⟨fun p c hp hne hc hn => h p c (by omega) hc hn, fun p c hp hc => by unfold Child at hc; omega, Nat.le_refl _⟩
theorem Down.done {d : Array α} {n k i : Nat} (h : Down lt d n k i) (hi : n ≤ 2 * i + 1) : Heap lt d n k := by
  intro p c hp hc hn
  by_cases e : p = i
  · subst e; unfold Child at hc; omega
  · exact h.ok p c hp e hc hn
/-- c is the lesser child. -/
structure Least (lt : α → α → Bool) (d : Array α) (n i c : Nat) : Prop where
  child : Child c i
  inn : c < n
  le : ∀ o, Child o i → o < n → lt d[o]! d[c]! = false
theorem Down.stop (hS : SWO lt) {d : Array α} {n k i c : Nat} (h : Down lt d n k i) (hc : Least lt d n i c) (hl : lt d[c]! d[i]! = false) : Heap lt d n k := by
  intro p o hp ho hn
  by_cases e : p = i
  · subst e; exact hS.ntrans _ _ _ (hc.le o ho hn) hl
  · exact h.ok p o hp e ho hn
theorem Down.step (hS : SWO lt) {d : Array α} {n k i c : Nat} (h : Down lt d n k i) (hc : Least lt d n i c) (hl : lt d[c]! d[i]! = true) (hn : n ≤ d.size) : Down lt (swp d i c) n k c := by
  have hci : c ≠ i := by have := hc.child; unfold Child at this; omega
  have hcn := hc.inn
  have hcc := hc.child
  have hin : i < n := by unfold Child at hcc; omega
  have e1 : (swp d i c)[i]! = d[c]! := swp_left d i c (by omega) (by omega)
  have e2 : (swp d i c)[c]! = d[i]! := swp_right d i c (by omega)
  have e3 : ∀ x, x ≠ i → x ≠ c → (swp d i c)[x]! = d[x]! := fun x h1 h2 => swp_other d i c x h1 h2
  refine ⟨fun p o hp hpc ho hon => ?_, fun p o hp hcp ho hon => ?_, ?_⟩
  · by_cases ei : p = i
    · subst ei
      by_cases eo : o = c
      · subst eo; rw [e1, e2]; exact asym hS hl
      · have : o ≠ p := by unfold Child at ho; omega
        rw [e1, e3 o this eo]; exact hc.le o ho hon
    · rw [e3 p ei hpc]
      by_cases eo : o = i
      · subst eo; rw [e1]; exact h.up p c hp ho hc.child hc.inn
      · by_cases eo2 : o = c
        · subst eo2; exfalso; unfold Child at ho hcc; omega
        · rw [e3 o eo eo2]; exact h.ok p o hp ei ho hon
  · have ep : p = i := by unfold Child at hcp hcc; omega
    subst ep
    have o1 : o ≠ p := by unfold Child at ho hcc; omega
    have o2 : o ≠ c := by unfold Child at ho; omega
    rw [e1, e3 o o1 o2]
    exact h.ok c o (by have := h.le; unfold Child at hcc; omega) hci ho hon
  · have := h.le; unfold Child at hcc; omega

theorem Up.start {d : Array α} {n : Nat} (h : Heap lt d n 0) (x : α) (hn : n = d.size) : Up lt (d.push x) (n + 1) n := by
  refine ⟨fun p c hc hcp hcn => ?_, fun p c hp hc hcn => by unfold Child at hc; omega⟩
  have h1 : c < d.size := by omega
  have h2 : p < d.size := by unfold Child at hcp; omega
  have e : ∀ i, i < d.size → (d.push x)[i]! = d[i]! := fun i hi => by
    rw [getElem!_pos (d.push x) i (by simp; omega), getElem!_pos d i hi, Array.getElem_push_lt hi]
  rw [e c h1, e p h2]
  exact h p c (Nat.zero_le _) hcp (by omega)
theorem Up.top {d : Array α} {n : Nat} (h : Up lt d n 0) : Heap lt d n 0 := fun p c _ hc hn => h.ok p c (by unfold Child at hc; omega) hc hn
theorem Up.stop {d : Array α} {n j i : Nat} (h : Up lt d n j) (hi : Child j i) (hl : lt d[j]! d[i]! = false) : Heap lt d n 0 := by
  intro p c _ hc hn
  by_cases e : c = j
  · subst e
    have : p = i := by unfold Child at hc hi; omega
    subst this; exact hl
  · exact h.ok p c e hc hn
theorem Up.step (hS : SWO lt) {d : Array α} {n j i : Nat} (h : Up lt d n j) (hi : Child j i) (hl : lt d[j]! d[i]! = true) (hj : j < n) (hn : n ≤ d.size) : Up lt (swp d i j) n i := by
  have hij : i ≠ j := by unfold Child at hi; omega
  have hil : i < n := by unfold Child at hi; omega
  have e1 : (swp d i j)[i]! = d[j]! := swp_left d i j (by omega) hij
  have e2 : (swp d i j)[j]! = d[i]! := swp_right d i j (by omega)
  have e3 : ∀ x, x ≠ i → x ≠ j → (swp d i j)[x]! = d[x]! := fun x h1 h2 => swp_other d i j x h1 h2
  refine ⟨fun p c hci hc hcn => ?_, fun p c hp hc hcn => ?_⟩
  · by_cases ej : c = j
    · subst ej
      have : p = i := by unfold Child at hc hi; omega
      subst this
      rw [e1, e2]; exact asym hS hl
    · rw [e3 c hci ej]
      by_cases ep : p = i
      · subst ep
        rw [e1]
        have hh := h.ok p c ej hc hcn
        cases e : lt d[c]! d[j]!
        · rfl
        · have := hS.trans _ _ _ e hl; rw [hh] at this; cases this
      · by_cases ep2 : p = j
        · subst ep2; rw [e2]; exact h.up i c hi hc hcn
        · rw [e3 p ep ep2]; exact h.ok p c ej hc hcn
  · have p1 : p ≠ i := by unfold Child at hp; omega
    have p2 : p ≠ j := by unfold Child at hp hi; omega
    rw [e3 p p1 p2]
    have hip := h.ok p i hij hp hil
    by_cases ej : c = j
    · subst ej; rw [e2]; exact hip
    · have c1 : c ≠ i := by unfold Child at hc; omega
      rw [e3 c c1 ej]
      exact hS.ntrans _ _ _ (h.ok i c ej hc hcn) hip

/-- The first one is least. -/
theorem Heap.first (hS : SWO lt) {d : Array α} {n : Nat} (h : Heap lt d n 0) : ∀ i, i < n → lt d[i]! d[0]! = false := by
  intro i
  induction i using Nat.strongRecOn with
  | ind i ih =>
    intro hi
    by_cases e : i = 0
    · subst e; exact hS.irrefl _
    · have hc : Child i ((i - 1) / 2) := by unfold Child; omega
      exact hS.ntrans _ _ _ (h _ _ (Nat.zero_le _) hc hi) (ih ((i - 1) / 2) (by omega) (by omega))
theorem Heap.mono {d : Array α} {n m k : Nat} (h : Heap lt d n k) (hm : m ≤ n) : Heap lt d m k := fun p c hp hc hn => h p c hp hc (by omega)
theorem Heap.none {d : Array α} {n k : Nat} (h : n ≤ 2 * k + 1) : Heap lt d n k := fun p c hp hc hn => by unfold Child at hc; omega
/-- After the first and the last one are exchanged. -/
theorem Heap.swapped {d : Array α} {n : Nat} (h : Heap lt d (n + 1) 0) : Heap lt (swp d 0 n) n 1 := by
  intro p c hp hc hcn
  have h1 : c ≠ 0 := by unfold Child at hc; omega
  rw [swp_other d 0 n c h1 (by omega), swp_other d 0 n p (by omega) (by unfold Child at hc; omega)]
  exact h p c (Nat.zero_le _) hc (by omega)

theorem swp_perm (d : Array α) (i j : Nat) (hi : i < d.size) (hj : j < d.size) : (swp d i j).toList.Perm d.toList := by
  have := swp_permIn d 0 d.size i j (Nat.zero_le _) hi (Nat.zero_le _) hj (Nat.le_refl _)
  have h2 := this.2.2
  have e : (swp d i j).extract 0 d.size = swp d i j := by rw [← size_swp d i j]; exact Array.extract_size
  rw [e, Array.extract_size] at h2
  exact h2
end Go.Proofs.Ytepigofpcjmddaa.Hp
