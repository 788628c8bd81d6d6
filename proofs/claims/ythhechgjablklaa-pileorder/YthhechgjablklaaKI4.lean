/-
  Canonical items, and their order.
-/
import Derived.Test.YthhechgjablklaaPileW
namespace Go.Proofs.Ythhechgjablklaa
open Go.RowKit Go.Sort

/-- A canonical item: none is that of bits 0 and value 0. -/
abbrev KI := Option { p : Nat × Int // (p.1 < 18446744073709551616 ∧ cbits p.1 = p.1) ∧ p ≠ (0, 0) }
def KI.b (x : KI) : Nat := match x with | none => 0 | some p => p.1.1
def KI.v (x : KI) : Int := match x with | none => 0 | some p => p.1.2
theorem KI.ok (x : KI) : x.b < 18446744073709551616 ∧ cbits x.b = x.b := by
  match x with
  | none => exact ⟨by decide, by decide⟩
  | some p => exact p.2.1
theorem KI.ext' {x y : KI} (hb : x.b = y.b) (hv : x.v = y.v) : x = y := by
  match x, y with
  | none, none => rfl
  | none, some q => exact absurd (Prod.ext hb.symm hv.symm) q.2.2
  | some p, none => exact absurd (Prod.ext hb hv) p.2.2
  | some p, some q => exact congrArg some (Subtype.ext (Prod.ext hb hv))
def KI.of (b : Nat) (v : Int) (ok : b < 18446744073709551616 ∧ cbits b = b) : KI := if h : (b, v) = (0, 0) then none else some ⟨(b, v), ok, h⟩
theorem KI.of_b (b : Nat) (v : Int) (ok : b < 18446744073709551616 ∧ cbits b = b) : (KI.of b v ok).b = b := by
  unfold KI.of
  split
  case isTrue h => injection h with h1 h2; exact h1.symm
  case isFalse h => rfl
theorem KI.of_v (b : Nat) (v : Int) (ok : b < 18446744073709551616 ∧ cbits b = b) : (KI.of b v ok).v = v := by
  unfold KI.of
  split
  case isTrue h => injection h with h1 h2; exact h2.symm
  case isFalse h => rfl
def KI.lt (x y : KI) : Bool := decide (cmpN x.b x.v y.b y.v < 0)
theorem key_canon {m n : Nat} (hm : m < 18446744073709551616 ∧ cbits m = m) (hn : n < 18446744073709551616 ∧ cbits n = n) (h : key m = key n) : m = n := by
  unfold key keyI ni at h
  rw [hm.2, hn.2] at h
  split at h <;> split at h <;> omega
theorem cmpN_lt (m n : Nat) (a b : Int) : cmpN m a n b < 0 ↔ key m < key n ∨ (key m = key n ∧ a < b) := by
  unfold cmpN
  have h1 := cmpI_neg_iff (key m) (key n)
  have h2 := cmpI_zero (key m) (key n)
  have h3 := cmpI_neg_iff a b
  generalize cmpI (key m) (key n) = c at *
  generalize key m = p at *
  generalize key n = q at *
  split
  · rw [h3]
    constructor
    · intro h; exact .inr ⟨h2.1 ‹_›, h⟩
    · rintro (h | h)
      · omega
      · exact h.2
  · rw [h1]
    constructor
    · intro h; exact .inl h
    · rintro (h | h)
      · exact h
      · exact absurd (h2.2 h.1) ‹_›
theorem KI.lt_iff (x y : KI) : x.lt y = true ↔ key x.b < key y.b ∨ (key x.b = key y.b ∧ x.v < y.v) := by
  unfold KI.lt; rw [decide_eq_true_eq, cmpN_lt]
theorem KI.lt_false (x y : KI) : x.lt y = false ↔ ¬ (key x.b < key y.b ∨ (key x.b = key y.b ∧ x.v < y.v)) := by
  rw [← KI.lt_iff]; cases x.lt y <;> simp
theorem KI.swo : SWO KI.lt where
  irrefl x := by rw [KI.lt_false]; omega
  trans x y z h1 h2 := by
    rw [KI.lt_iff] at *
    generalize key x.b = p at *; generalize key y.b = q at *; generalize key z.b = r at *
    omega
  ntrans x y z h1 h2 := by
    rw [KI.lt_false] at *
    generalize key x.b = p at *; generalize key y.b = q at *; generalize key z.b = r at *
    omega
theorem KI.total (x y : KI) (h1 : x.lt y = false) (h2 : y.lt x = false) : x = y := by
  rw [KI.lt_false] at h1 h2
  have hk : key x.b = key y.b := by
    generalize key x.b = p at *; generalize key y.b = q at *; omega
  have hb := key_canon x.ok y.ok hk
  have hv : x.v = y.v := by
    rw [hk] at h1 h2; omega
  exact KI.ext' hb hv

theorem cbits_idem (n : Nat) : cbits (cbits n) = cbits n := by
  cases h : nanB n
  · rw [cbits_num h, cbits_num h]
  · rw [cbits_nan h]; decide
/-- Made canonical. -/
def mkKI (p : Nat) (v : Int) : KI := if h : p < 18446744073709551616 then KI.of (cbits p) v ⟨cbits_lt h, cbits_idem p⟩ else none
theorem mkKI_b {p : Nat} (h : p < 18446744073709551616) (v : Int) : (mkKI p v).b = cbits p := by unfold mkKI; rw [dif_pos h]; exact KI.of_b _ _ _
theorem mkKI_v {p : Nat} (h : p < 18446744073709551616) (v : Int) : (mkKI p v).v = v := by unfold mkKI; rw [dif_pos h]; exact KI.of_v _ _ _
theorem mkKI_self (x : KI) : mkKI x.b x.v = x := by
  have h1 := mkKI_b x.ok.1 x.v
  rw [x.ok.2] at h1
  exact KI.ext' h1 (mkKI_v x.ok.1 x.v)
def kiOf (P V : Nat → Int) (i : Nat) : KI := mkKI (nf (P i)) (V i)
end Go.Proofs.Ythhechgjablklaa
