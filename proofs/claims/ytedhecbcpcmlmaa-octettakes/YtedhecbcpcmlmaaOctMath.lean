/-
  The plain mathematics of octet's bytes: no Go, no program.
-/
namespace Go.Proofs.Ytedhecbcpcmlmaa.Oct

/-- A number's bytes: seven bits a byte, the lowest first; at most f + 1 bytes. -/
def numB : Nat → Nat → List UInt8
  | 0, n => [UInt8.ofNat n]
  | f + 1, n => if n < 128 then [UInt8.ofNat n] else UInt8.ofNat (n % 128 + 128) :: numB f (n / 128)

theorem numB_small (f : Nat) {n : Nat} (h : n < 128) : numB f n = [UInt8.ofNat n] := by
  cases f with
  | zero => rfl
  | succ f => simp [numB, h]

theorem numB_more (f : Nat) {n : Nat} (h : ¬ n < 128) : numB (f + 1) n = UInt8.ofNat (n % 128 + 128) :: numB f (n / 128) := by simp [numB, h]

theorem numB_length (f n : Nat) : (numB f n).length ≤ f + 1 := by
  induction f generalizing n with
  | zero => simp [numB]
  | succ f ih =>
    unfold numB
    split
    · simp
    · have := ih (n / 128); simp; omega

theorem numB_fuel (f n : Nat) (h : n < 128 ^ (f + 1)) : numB (f + 1) n = numB f n := by
  induction f generalizing n with
  | zero => simp at h; simp [numB, h]
  | succ f ih =>
    by_cases h1 : n < 128
    · rw [numB_small _ h1, numB_small _ h1]
    · rw [numB_more _ h1, numB_more _ h1, ih (n / 128)]
      rw [Nat.pow_succ] at h
      exact Nat.div_lt_of_lt_mul (by omega)

/-- So many bytes of a number, the lowest first. -/
def fixB : Nat → Nat → List UInt8
  | 0, _ => []
  | k + 1, n => UInt8.ofNat n :: fixB k (n / 256)

theorem fixB_length (k n : Nat) : (fixB k n).length = k := by
  induction k generalizing n with
  | zero => rfl
  | succ k ih => simp [fixB, ih]

theorem fixB_snoc (k n : Nat) : fixB (k + 1) n = fixB k n ++ [UInt8.ofNat (n / 256 ^ k)] := by
  induction k generalizing n with
  | zero => simp [fixB]
  | succ k ih =>
    show UInt8.ofNat n :: fixB (k + 1) (n / 256) = UInt8.ofNat n :: fixB k (n / 256) ++ _
    rw [ih, Nat.div_div_eq_div_mul, Nat.pow_succ, Nat.mul_comm 256]
    rfl

/-- An int64 as the number of its bytes. -/
def zig (m : Int) : Nat := if m < 0 then (-m - 1).toNat * 2 + 1 else m.toNat * 2

theorem byte_toNat (n : Nat) (h : n < 256) : (UInt8.ofNat n).toNat = n := by
  simp [Nat.mod_eq_of_lt h]
theorem byte_mod (n : Nat) : (UInt8.ofNat n).toNat = n % 256 := by simp
theorem byte_wrap (n : Nat) : UInt8.ofNat (n % 256) = UInt8.ofNat n := by
  apply UInt8.toNat_inj.1; simp

theorem or128 (n : Nat) : (n % 256) ||| 128 = n % 128 + 128 := by
  have h : n % 256 = n % 128 ∨ n % 256 = n % 128 + 128 := by omega
  have hl : n % 128 < 128 := by omega
  generalize n % 128 = m at *
  rcases h with h | h
  · rw [h, Nat.or_comm]
    have := Nat.two_pow_add_eq_or_of_lt (i := 7) (b := m) (by omega) 1
    simp at this; omega
  · rw [h]
    have := Nat.two_pow_add_eq_or_of_lt (i := 7) (b := m) (by omega) 1
    have e : m + 128 = 128 ||| m := by simp at this; omega
    rw [e, Nat.or_comm 128 m, Nat.or_assoc, Nat.or_self, Nat.or_comm]

/-- A number of bytes, the lowest first. -/
def leB : List UInt8 → Nat
  | [] => 0
  | c :: l => c.toNat + 256 * leB l

theorem leB_lt (l : List UInt8) : leB l < 256 ^ l.length := by
  induction l with
  | nil => simp [leB]
  | cons c l ih =>
    have := c.toNat_lt
    simp only [leB, List.length_cons, Nat.pow_succ]
    omega

theorem leB_snoc (l : List UInt8) (c : UInt8) : leB (l ++ [c]) = leB l + c.toNat * 256 ^ l.length := by
  induction l with
  | nil => simp [leB]
  | cons x l ih =>
    simp only [List.cons_append, leB, ih, List.length_cons, Nat.pow_succ]
    rw [Nat.mul_add, Nat.add_assoc]
    congr 2
    rw [← Nat.mul_assoc, ← Nat.mul_assoc]
    rw [Nat.mul_comm 256 c.toNat, Nat.mul_assoc, Nat.mul_assoc, Nat.mul_comm 256]

theorem leB_fixB (k n : Nat) : leB (fixB k n) = n % 256 ^ k := by
  induction k generalizing n with
  | zero => simp [fixB, leB, Nat.mod_one]
  | succ k ih =>
    simp only [fixB, leB, ih, byte_mod, Nat.pow_succ]
    rw [Nat.mul_comm (256 ^ k) 256, Nat.mod_mul]

theorem or_high (n c k : Nat) (h : n < 2 ^ k) : n ||| (c * 2 ^ k) = n + c * 2 ^ k := by
  rw [Nat.or_comm, Nat.mul_comm c]
  have := Nat.two_pow_add_eq_or_of_lt (i := k) (b := n) h c
  omega
end Go.Proofs.Ytedhecbcpcmlmaa.Oct
