/-
  What the digits of base 16 say, as the library reads them.
-/
import Derived.Lib.AtoiAllMem
import Derived.WalkKit
namespace Go.Proofs.YtfcjdgjjicfheaaDoor
open Go.RowKit

/-- A digit's number: small letters and great ones. -/
def dig16 (c : UInt8) : Option Nat := if 48 ≤ c.toNat ∧ c.toNat ≤ 57 then some (c.toNat - 48) else if 97 ≤ (c ||| 32).toNat ∧ (c ||| 32).toNat ≤ 102 then some ((c ||| 32).toNat - 87) else none
/-- What a row of bytes says behind what was gathered: none: it has what is no digit; some none: it is too much. -/
def read16 (acc : Nat) : List UInt8 → Option (Option Nat)
  | [] => some (some acc)
  | c :: cs => match dig16 c with
    | none => none
    | some d => if 1152921504606846976 ≤ acc then some none else read16 (acc * 16 + d) cs
/-- What is handed back then. -/
def tup16 (T : TypeId) : Option (Option Nat) → Value
  | some (some n) => .tuple #[.int .u64 n, .nilIface]
  | none => .tuple #[.int .u64 0, .iface T (.int .i64 2)]
  | some none => .tuple #[.int .u64 18446744073709551615, .iface T (.int .i64 1)]

theorem low16 (c : UInt8) : bits .or .u8 (c.toNat : Int) 32 = ((c ||| 32).toNat : Int) := by
  have h : ∀ n : Fin 256, bits .or .u8 (((UInt8.ofNat n.val).toNat : Nat) : Int) 32 = (((UInt8.ofNat n.val) ||| 32).toNat : Int) := by decide +kernel
  have := h ⟨c.toNat, c.toNat_lt⟩
  simpa using this
theorem dig16_lt {c : UInt8} {d : Nat} (h : dig16 c = some d) : d < 16 := by
  unfold dig16 at h
  split at h
  · injection h; omega
  · split at h
    · injection h; omega
    · cases h
theorem low16_95 (c : UInt8) (h : c.toNat = 95) : (c ||| 32).toNat = 127 := by
  have e : c = 95 := by
    apply UInt8.toNat.inj
    rw [h]; rfl
  subst e; rfl
end Go.Proofs.YtfcjdgjjicfheaaDoor
