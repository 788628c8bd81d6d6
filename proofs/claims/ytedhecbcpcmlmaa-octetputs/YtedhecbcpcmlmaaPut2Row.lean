/-
  OctetPuts, of arguments as they are read.
-/
import Derived.Test.YtedhecbcpcmlmaaPut2
import Derived.Test.YtedhecbcpcmlmaaBack
namespace Go.Proofs.Ytedhecbcpcmlmaa
open Go.RowKit

theorem octetPuts_row (a0 : ByteArray) (a1 a2 a3 : Int) (a4 : ByteArray) (w0 : a0.size ≤ maxLen) (w1 : (Lit.int .u64 a1).wf = true) (w2 : (Lit.int .i64 a2).wf = true) (w3 : (Lit.int .u32 a3).wf = true) (w4 : a4.size ≤ maxLen) (w : World) :
    Calls Try.prog 4 #[.string a0, .int .u64 a1, .int .i64 a2, .int .u32 a3, .string a4] w fun e w' => e = .returned (.bool true) ∧ Below w.heap.size w w' := by
  obtain ⟨n, rfl⟩ := Int.eq_ofNat_of_zero_le (wf_u64 w1).1
  obtain ⟨k, rfl⟩ := Int.eq_ofNat_of_zero_le (wf_u32 w3).1
  exact octetPuts_any a0 a4 n a2 k w w0 w4 (by have := (wf_u64 w1).2; omega) (wf_i64 w2).1 (wf_i64 w2).2 (by have := (wf_u32 w3).2; omega)
end Go.Proofs.Ytedhecbcpcmlmaa
