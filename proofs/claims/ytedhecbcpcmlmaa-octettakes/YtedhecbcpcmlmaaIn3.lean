/-
  Contracts of octet's reading functions, the numbers.
-/
import Derived.Test.YtedhecbcpcmlmaaIn2
namespace Go.Proofs.Ytedhecbcpcmlmaa
open Go.RowKit

/-- The number that a text begins with, how many bytes it has, the error. -/
def first : Nat → Nat → List UInt8 → Nat × Nat × Nat
  | _, _, [] => (0, 0, 1)
  | k, n, c :: l =>
    if k = 9 ∧ 1 < c.toNat then (0, 0, 2)
    else if 0 < k ∧ c.toNat = 0 then (0, 0, 2)
    else if c.toNat < 128 then (n + c.toNat % 128 * 128 ^ k, k + 1, 0)
    else first (k + 1) (n + c.toNat % 128 * 128 ^ k) l

theorem first_hi (n : Nat) (c : UInt8) (l : List UInt8) (h : 1 < c.toNat) : first 9 n (c :: l) = (0, 0, 2) := by
  unfold first; rw [if_pos ⟨rfl, h⟩]
theorem first_zero (k n : Nat) (c : UInt8) (l : List UInt8) (hk : 0 < k) (h : c.toNat = 0) : first k n (c :: l) = (0, 0, 2) := by
  unfold first; rw [if_neg (by omega), if_pos ⟨hk, h⟩]
theorem first_end (k n : Nat) (c : UInt8) (l : List UInt8) (h1 : ¬ (k = 9 ∧ 1 < c.toNat)) (h2 : ¬ (0 < k ∧ c.toNat = 0)) (h3 : c.toNat < 128) : first k n (c :: l) = (n + c.toNat % 128 * 128 ^ k, k + 1, 0) := by
  unfold first; rw [if_neg h1, if_neg h2, if_pos h3]
theorem first_go (k n : Nat) (c : UInt8) (l : List UInt8) (h1 : ¬ (k = 9 ∧ 1 < c.toNat)) (h2 : ¬ (0 < k ∧ c.toNat = 0)) (h3 : ¬ c.toNat < 128) : first k n (c :: l) = first (k + 1) (n + c.toNat % 128 * 128 ^ k) l := by
  rw [first]; rw [if_neg h1, if_neg h2, if_neg h3]

theorem and127 {c : Nat} (h : c < 256) : bits BinOp.and IntKind.u8 (c : Int) 127 = ((c % 128 : Nat) : Int) := by
  have e := u8_and_nat c 127 h (by decide)
  rw [nat_mask7] at e
  exact e

set_option maxRecDepth 10000 in
theorem or7 {n c k : Nat} (hk : k < 10) (hn : n < 128 ^ k) (hlt : c % 128 * 128 ^ k < 18446744073709551616) : bits BinOp.or IntKind.u64 (n : Int) (IntKind.u64.wrap ((c : Int) % 128 * 2 ^ (7 * k))) = ((n + c % 128 * 128 ^ k : Nat) : Int) := by
  rw [IntKind.wrap_u64]
  have e1 : (128 : Nat) ^ k = 2 ^ (7 * k) := by rw [show (128 : Nat) = 2 ^ 7 from rfl, ← Nat.pow_mul]
  have hp : (128 : Nat) ^ k ≤ 128 ^ 9 := Nat.pow_le_pow_right (by omega) (by omega)
  have hnl : n < 18446744073709551616 := Nat.lt_of_lt_of_le hn (Nat.le_trans hp (by decide))
  have e3 : ((c : Int) % 128 * 2 ^ (7 * k) % 18446744073709551616) = ((c % 128 * 2 ^ (7 * k) % 18446744073709551616 : Nat) : Int) := by
    rw [Int.natCast_emod, Int.natCast_mul, Int.natCast_emod, Int.natCast_pow]; rfl
  rw [e3, ← e1, Nat.mod_eq_of_lt hlt, u64_or_nat n _ hnl hlt]
  rw [e1] at hn ⊢
  rw [Oct.or_high n (c % 128) (7 * k) hn]
set_option maxRecDepth 10000 in
theorem lt7 {c k : Nat} (hk : k < 9) : c % 128 * 128 ^ k < 18446744073709551616 := by
  have hp : (128 : Nat) ^ k ≤ 128 ^ 8 := Nat.pow_le_pow_right (by omega) (by omega)
  have h1 : c % 128 * 128 ^ k ≤ 127 * 128 ^ 8 := Nat.mul_le_mul (by omega) hp
  have h2 : 127 * 128 ^ 8 < 18446744073709551616 := by decide
  exact Nat.lt_of_le_of_lt h1 h2
set_option maxRecDepth 10000 in
theorem or7_9 {n c : Nat} (hn : n < 128 ^ 9) (hc : c ≤ 1) : bits BinOp.or IntKind.u64 (n : Int) ((c : Int) % 128 * 9223372036854775808) = ((n + c % 128 * 128 ^ 9 : Nat) : Int) := by
  have hlt : c % 128 * 128 ^ 9 < 18446744073709551616 := by
    have h1 : c % 128 * 128 ^ 9 ≤ 1 * 128 ^ 9 := Nat.mul_le_mul (by omega) (Nat.le_refl _)
    have h2 : 1 * 128 ^ 9 < 18446744073709551616 := by decide
    exact Nat.lt_of_le_of_lt h1 h2
  rw [← or7 (k := 9) (by omega) hn hlt, IntKind.wrap_u64]
  congr 1
  have e : (2 : Int) ^ (7 * 9) = 9223372036854775808 := by decide
  rw [e]
  have hc2 : (c : Int) % 128 ≤ 1 := by omega
  have hc0 : 0 ≤ (c : Int) % 128 := by omega
  generalize (c : Int) % 128 = d at *
  rw [Int.emod_eq_of_lt (by omega) (by omega)]
theorem acc7 {n c k : Nat} (hn : n < 128 ^ k) : n + c % 128 * 128 ^ k < 128 ^ (k + 1) := by
  have h1 : c % 128 * 128 ^ k ≤ 127 * 128 ^ k := Nat.mul_le_mul (by omega) (Nat.le_refl _)
  rw [Nat.pow_succ]; omega

theorem drop_cons (s : ByteArray) (k : Nat) (h : k < s.size) : s.data.toList.drop k = s[k] :: s.data.toList.drop (k + 1) := by
  rw [List.drop_eq_getElem_cons (by simpa using h)]; rfl

set_option maxRecDepth 10000 in
set_option maxHeartbeats 800000 in
theorem firstNum_any (s : ByteArray) (w : World) (hs : s.size ≤ maxLen) :
    Calls Try.prog 54 #[.string s] w fun e w' => e = .returned (.tuple #[.int .u64 ((first 0 0 s.data.toList).1 : Int), .int .i64 ((first 0 0 s.data.toList).2.1 : Int), .int .i64 ((first 0 0 s.data.toList).2.2 : Int)]) ∧ w' = w := by
  unfold maxLen at hs
  generalize hf : first 0 0 s.data.toList = f
  have Hf := hid hf
  clear hf
  go_enter Try.func54, Try.ntmps54
  go_wp2
  go_loop [5, 10] (fun t i => ∃ k n : Nat, k ≤ s.size ∧ k ≤ 9 ∧ n < 128 ^ k ∧ i = .int .i64 (k : Int) ∧ t = .int .u64 (n : Int) ∧ f = first k n (s.data.toList.drop k)) (fun _ i => s.size - (intOf i).toNat)
  case atStart => exact ⟨0, 0, by omega, by omega, by simp, rfl, rfl, Hf.out.symm⟩
  case round =>
    obtain ⟨k, n, hk, hk9, hn, rfl, rfl, hf⟩ := hrel
    have Hf2 := hid hf
    clear hf
    by_cases hlt : k < s.size
    · have hd := drop_cons s k hlt
      have H3 : Hid (f = first k n (s[k] :: s.data.toList.drop (k + 1))) := by rw [← hd]; exact Hf2
      clear hd Hf2
      have hc : s[k].toNat < 256 := s[k].toNat_lt
      have hand := and127 hc
      by_cases h9 : k = 9
      · subst h9
        by_cases h2 : 1 < s[9].toNat
        · have H4 := hid (H3.out.trans (first_hi n _ _ h2))
          go_wp2
          go_ret3
          exact ⟨by rw [H4.out]; rfl, rfl⟩
        · by_cases h3 : s[9].toNat = 0
          · have H4 := hid (H3.out.trans (first_zero 9 n _ _ (by omega) h3))
            go_wp2
            go_ret3
            exact ⟨by rw [H4.out]; rfl, rfl⟩
          · have H4 := hid (H3.out.trans (first_end 9 n _ _ (by omega) (by omega) (by omega)))
            have H5 : Hid (s[9].toNat = 1) := by show _ = _; omega
            have H6 := hid (or7_9 (c := s[9].toNat) hn (by omega))
            go_wp2
            go_ret3
            refine ⟨?_, rfl⟩
            rw [H4.out]
            exact congrArg (fun x => Ending.returned (.tuple #[.int .u64 x, .int .i64 10, .int .i64 0])) H6.out
      · have hk8 : k < 9 := by omega
        by_cases h3 : 0 < k ∧ s[k].toNat = 0
        · obtain ⟨h4, h5⟩ := h3
          have H4 := hid (H3.out.trans (first_zero k n _ _ h4 h5))
          go_wp2
          go_ret3
          exact ⟨by rw [H4.out]; rfl, rfl⟩
        · by_cases h6 : s[k].toNat < 128
          · have H4 := hid (H3.out.trans (first_end k n _ _ (by omega) h3 h6))
            have H6 := hid (or7 (c := s[k].toNat) (k := k) (by omega) hn (lt7 hk8))
            go_wp2
            all_goals
              go_ret3
              refine ⟨?_, rfl⟩
              rw [H4.out]
              exact congrArg (fun x => Ending.returned (.tuple #[.int .u64 x, .int .i64 ((k : Int) + 1), .int .i64 0])) H6.out
          · have H4 := hid (H3.out.trans (first_go k n _ _ (by omega) h3 h6))
            have H6 := hid (or7 (c := s[k].toNat) (k := k) (by omega) hn (lt7 hk8))
            go_wp2
            all_goals
              go_round
              case rel => exact ⟨k + 1, _, by omega, by omega, acc7 hn, by go_num, val_int H6.out, H4.out⟩
              case measure => simp [intOf]; omega
    · have hk2 : k = s.size := by omega
      subst hk2
      have H4 : Hid (f = (0, 0, 1)) := by
        show _ = _
        rw [Hf2.out, List.drop_of_length_le (by simp)]; rfl
      go_wp2
      go_ret3
      exact ⟨by rw [H4.out]; rfl, rfl⟩

theorem first_size : ∀ (l : List UInt8) (k n : Nat), (first k n l).2.2 = 0 → k < (first k n l).2.1 ∧ (first k n l).2.1 ≤ k + l.length
  | [], k, n, h => by simp [first] at h
  | c :: l, k, n, h => by
    unfold first at h ⊢
    split
    · rename_i h1; rw [if_pos h1] at h; simp at h
    · rename_i h1
      rw [if_neg h1] at h
      split
      · rename_i h2; rw [if_pos h2] at h; simp at h
      · rename_i h2
        rw [if_neg h2] at h
        split
        · simp
        · rename_i h3
          rw [if_neg h3] at h
          have := first_size l (k + 1) _ h
          simp; omega
theorem first_err : ∀ (l : List UInt8) (k n : Nat), (first k n l).2.2 ≠ 0 → (first k n l).1 = 0 ∧ (first k n l).2.2 ≤ 2
  | [], k, n, h => by simp [first]
  | c :: l, k, n, h => by
    unfold first at h ⊢
    split
    · simp
    · rename_i h1
      rw [if_neg h1] at h
      split
      · simp
      · rename_i h2
        rw [if_neg h2] at h
        split
        · rename_i h3; rw [if_pos h3] at h; simp at h
        · rename_i h3
          rw [if_neg h3] at h
          exact first_err l (k + 1) _ h
theorem first_lt : ∀ (l : List UInt8) (k n : Nat), k ≤ 9 → n < 128 ^ k → (first k n l).1 < 18446744073709551616
  | [], k, n, _, _ => by simp [first]
  | c :: l, k, n, hk, hn => by
    unfold first
    split
    · simp
    · rename_i h1
      split
      · simp
      · rename_i h2
        have ha := acc7 (c := c.toNat) hn
        split
        · show n + c.toNat % 128 * 128 ^ k < _
          by_cases h9 : k = 9
          · subst h9
            have h3 : c.toNat ≤ 1 := by omega
            have h4 : c.toNat % 128 * 128 ^ 9 ≤ 1 * 128 ^ 9 := Nat.mul_le_mul (by omega) (Nat.le_refl _)
            have h5 : 2 * (128 : Nat) ^ 9 = 18446744073709551616 := by decide
            omega
          · have h4 : (128 : Nat) ^ (k + 1) ≤ 128 ^ 9 := Nat.pow_le_pow_right (by omega) (by omega)
            have h5 : (128 : Nat) ^ 9 < 18446744073709551616 := by decide
            omega
        · by_cases h9 : k = 9
          · subst h9; omega
          · exact first_lt l (k + 1) _ (by omega) ha

/-- Num: the number, what is left, the error. -/
def pNum (s : ByteArray) (er : Nat) (most : Nat) : Nat × ByteArray × Nat :=
  if (first 0 0 s.data.toList).2.2 ≠ 0 then (0, ByteArray.empty, eOr er (first 0 0 s.data.toList).2.2)
  else if most < (first 0 0 s.data.toList).1 then (0, ByteArray.empty, eOr er 3)
  else ((first 0 0 s.data.toList).1, s.extract (first 0 0 s.data.toList).2.1 s.size, er)

set_option maxHeartbeats 400000 in
theorem inNum_any (b : Nat) (s : ByteArray) (er most : Nat) (w : World) (h : InAt w b s er) :
    Calls Try.prog 28 #[.pointer (some ⟨b, 0, none⟩), .int .u64 (most : Int)] w fun e w' => e = .returned (.int .u64 ((pNum s er most).1 : Int)) ∧ InAt w' b (pNum s er most).2.1 (pNum s er most).2.2 ∧ But b w w' := by
  have c0 := h.c0
  have hs := first_size s.data.toList 0 0
  have hl := first_lt s.data.toList 0 0 (by omega) (by simp)
  have hf := fun w => firstNum_any s w h.sz
  generalize hp : pNum s er most = p
  unfold pNum at hp
  generalize first 0 0 s.data.toList = f at *
  obtain ⟨n, k, g⟩ := f
  simp only at hs hl hf hp
  by_cases h1 : g = 0
  · subst h1
    rw [if_neg (by simp)] at hp
    have hs2 := hs rfl
    have hkl : k ≤ s.size := by have := hs2.2; simp at this; exact this
    clear hs hs2
    by_cases h2 : most < n
    · rw [if_pos h2] at hp
      subst hp
      go_enter Try.func28, Try.ntmps28
      go_wp2_with fail
      refine (hf _).mono ?_
      clear hf
      rintro e w' ⟨rfl, rfl⟩
      go_wp2_with fail
      refine (fail_any b s er 3 _ h).mono ?_
      rintro e w' ⟨rfl, hi, hbut⟩
      go_wp2
      go_ret
      exact ⟨rfl, hi, hbut⟩
    · rw [if_neg h2] at hp
      subst hp
      go_enter Try.func28, Try.ntmps28
      go_wp2_with fail
      refine (hf _).mono ?_
      clear hf
      rintro e w' ⟨rfl, rfl⟩
      go_wp2_with fail
      refine (take_any b s er k _ h hkl).mono ?_
      rintro e w' ⟨rfl, hi, hbut⟩
      go_wp2
      go_ret
      exact ⟨rfl, hi, hbut⟩
  · rw [if_pos h1] at hp
    subst hp
    clear hs
    have h1' : ((g : Int) == 0) = false := by simp; omega
    go_enter Try.func28, Try.ntmps28
    go_wp2_with fail
    refine (hf _).mono ?_
    clear hf
    rintro e w' ⟨rfl, rfl⟩
    go_wp2_with fail
    refine (fail_any b s er g _ h).mono ?_
    rintro e w' ⟨rfl, hi, hbut⟩
    go_wp2
    go_ret
    exact ⟨rfl, hi, hbut⟩
end Go.Proofs.Ytedhecbcpcmlmaa
