/-
  Contracts of octet's reading functions, on.
-/
import Derived.Test.YtedhecbcpcmlmaaIn
namespace Go.Proofs.Ytedhecbcpcmlmaa
open Go.RowKit

set_option maxRecDepth 10000 in
theorem or32 {m c k : Nat} (hk : k < 4) (hm : m < 256 ^ k) (hc : c < 256) : bits BinOp.or IntKind.u32 (m : Int) ((c : Int) % 4294967296 * 2 ^ (8 * k) % 4294967296) = ((m + c * 256 ^ k : Nat) : Int) := by
  have e1 : (256 : Nat) ^ k = 2 ^ (8 * k) := by rw [show (256 : Nat) = 2 ^ 8 from rfl, ← Nat.pow_mul]
  have hp : (256 : Nat) ^ k ≤ 256 ^ 3 := Nat.pow_le_pow_right (by omega) (by omega)
  have hcp : c * 256 ^ k < 4294967296 := by
    have h1 : c * 256 ^ k ≤ 255 * 256 ^ 3 := Nat.mul_le_mul (by omega) hp
    have h2 : 255 * 256 ^ 3 < 4294967296 := by decide
    omega
  have hml : m < 4294967296 := by
    have h2 : (256 : Nat) ^ 3 < 4294967296 := by decide
    omega
  have e2 : ((c : Int) % 4294967296 * 2 ^ (8 * k) % 4294967296) = ((c * 256 ^ k : Nat) : Int) := by
    have e3 : ((c : Int) % 4294967296 * 2 ^ (8 * k) % 4294967296) = ((c % 4294967296 * 2 ^ (8 * k) % 4294967296 : Nat) : Int) := by
      rw [Int.natCast_emod, Int.natCast_mul, Int.natCast_emod, Int.natCast_pow]; rfl
    rw [e3, Nat.mod_eq_of_lt (show c < 4294967296 by omega), ← e1, Nat.mod_eq_of_lt hcp]
  rw [e2, u32_or_nat m (c * 256 ^ k) hml hcp]
  rw [e1] at hm ⊢
  rw [Oct.or_high m c (8 * k) hm]

set_option maxRecDepth 10000 in
set_option maxHeartbeats 400000 in
theorem from32_any (s : ByteArray) (w : World) (hs : s.size ≤ 4) :
    Calls Try.prog 57 #[.string s] w fun e w' => e = .returned (.int .u32 (Oct.leB s.data.toList : Nat)) ∧ w' = w := by
  go_enter Try.func57, Try.ntmps57
  go_wp2
  go_loop [3, 7] (fun t i => ∃ k : Nat, k ≤ s.size ∧ i = .int .i64 (k : Int) ∧ t = .int .u32 (Oct.leB (s.data.toList.take k) : Nat)) (fun _ i => s.size - (intOf i).toNat)
  case atStart => exact ⟨0, by omega, rfl, rfl⟩
  case round =>
    obtain ⟨k, hk, rfl, rfl⟩ := hrel
    by_cases hlt : k < s.size
    · have hl : (s.data.toList.take k).length = k := by simp; omega
      have hb := Oct.leB_lt (s.data.toList.take k)
      rw [hl] at hb
      have hsn := Oct.leB_snoc (s.data.toList.take k) s[k]
      rw [hl, ← take_snoc s k hlt] at hsn
      have Hs := hid hsn
      clear hsn hl
      generalize Oct.leB (s.data.toList.take k) = m at *
      have Hor := hid (or32 (m := m) (c := s[k].toNat) (k := k) (by omega) hb s[k].toNat_lt)
      go_wp2
      go_round
      case rel => exact ⟨k + 1, by omega, by go_num, val_int (by rw [Hs.out, ← Hor.out])⟩
      case measure => simp [intOf]; omega
    · have hk2 : k = s.size := by omega
      subst hk2
      go_wp2
      go_ret
      exact ⟨ret_int (by rw [List.take_of_length_le (by simp)]), rfl⟩

set_option maxRecDepth 10000 in
theorem or64 {m c k : Nat} (hk : k < 8) (hm : m < 256 ^ k) (hc : c < 256) : bits BinOp.or IntKind.u64 (m : Int) (IntKind.u64.wrap (IntKind.u64.wrap (c : Int) * 2 ^ (8 * k))) = ((m + c * 256 ^ k : Nat) : Int) := by
  rw [IntKind.wrap_u64, IntKind.wrap_u64]
  have e1 : (256 : Nat) ^ k = 2 ^ (8 * k) := by rw [show (256 : Nat) = 2 ^ 8 from rfl, ← Nat.pow_mul]
  have hp : (256 : Nat) ^ k ≤ 256 ^ 7 := Nat.pow_le_pow_right (by omega) (by omega)
  have hcp : c * 256 ^ k < 18446744073709551616 := by
    have h1 : c * 256 ^ k ≤ 255 * 256 ^ 7 := Nat.mul_le_mul (by omega) hp
    have h2 : 255 * 256 ^ 7 < 18446744073709551616 := by decide
    omega
  have hml : m < 18446744073709551616 := by
    have h2 : (256 : Nat) ^ 7 < 18446744073709551616 := by decide
    omega
  have e2 : ((c : Int) % 18446744073709551616 * 2 ^ (8 * k) % 18446744073709551616) = ((c * 256 ^ k : Nat) : Int) := by
    have e3 : ((c : Int) % 18446744073709551616 * 2 ^ (8 * k) % 18446744073709551616) = ((c % 18446744073709551616 * 2 ^ (8 * k) % 18446744073709551616 : Nat) : Int) := by
      rw [Int.natCast_emod, Int.natCast_mul, Int.natCast_emod, Int.natCast_pow]; rfl
    rw [e3, Nat.mod_eq_of_lt (show c < 18446744073709551616 by omega), ← e1, Nat.mod_eq_of_lt hcp]
  rw [e2, u64_or_nat m (c * 256 ^ k) hml hcp]
  rw [e1] at hm ⊢
  rw [Oct.or_high m c (8 * k) hm]

set_option maxRecDepth 10000 in
set_option maxHeartbeats 400000 in
theorem from64_any (s : ByteArray) (w : World) (hs : s.size ≤ 8) :
    Calls Try.prog 58 #[.string s] w fun e w' => e = .returned (.int .u64 (Oct.leB s.data.toList : Nat)) ∧ w' = w := by
  go_enter Try.func58, Try.ntmps58
  go_wp2
  go_loop [3, 7] (fun t i => ∃ k : Nat, k ≤ s.size ∧ i = .int .i64 (k : Int) ∧ t = .int .u64 (Oct.leB (s.data.toList.take k) : Nat)) (fun _ i => s.size - (intOf i).toNat)
  case atStart => exact ⟨0, by omega, rfl, rfl⟩
  case round =>
    obtain ⟨k, hk, rfl, rfl⟩ := hrel
    by_cases hlt : k < s.size
    · have hl : (s.data.toList.take k).length = k := by simp; omega
      have hb := Oct.leB_lt (s.data.toList.take k)
      rw [hl] at hb
      have hsn := Oct.leB_snoc (s.data.toList.take k) s[k]
      rw [hl, ← take_snoc s k hlt] at hsn
      have Hs := hid hsn
      clear hsn hl
      generalize Oct.leB (s.data.toList.take k) = m at *
      have Hor := hid (or64 (m := m) (c := s[k].toNat) (k := k) (by omega) hb s[k].toNat_lt)
      go_wp2
      go_round
      case rel => exact ⟨k + 1, by omega, by go_num, val_int (by rw [Hs.out, ← Hor.out])⟩
      case measure => simp [intOf]; omega
    · have hk2 : k = s.size := by omega
      subst hk2
      go_wp2
      go_ret
      exact ⟨ret_int (by rw [List.take_of_length_le (by simp)]), rfl⟩

end Go.Proofs.Ytedhecbcpcmlmaa
