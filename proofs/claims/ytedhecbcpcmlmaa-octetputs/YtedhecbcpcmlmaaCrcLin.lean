/-
  CRC-32's sums of texts laid over each other: no Go, no program.
-/
import Derived.Test.YtedhecbcpcmlmaaCrcMath
namespace Go.Proofs.Ytedhecbcpcmlmaa.Crc

theorem xor_mod2 (a b : Nat) : (a ^^^ b) % 2 = (a % 2 + b % 2) % 2 := by
  have h : (a ^^^ b) % 2 = (a % 2) ^^^ (b % 2) := Nat.xor_mod_two_pow (n := 1)
  have ha : a % 2 = 0 ∨ a % 2 = 1 := by omega
  have hb : b % 2 = 0 ∨ b % 2 = 1 := by omega
  rcases ha with ha | ha <;> rcases hb with hb | hb <;> rw [h, ha, hb] <;> rfl

theorem mstep_eq (c : Nat) : mstep c = (c / 2) ^^^ ((c % 2) * 3988292384) := by
  unfold mstep
  split
  · rename_i h; rw [h]
  · rename_i h
    have : c % 2 = 0 := by omega
    rw [this]; simp

theorem mstep_xor (a b : Nat) : mstep (a ^^^ b) = mstep a ^^^ mstep b := by
  rw [mstep_eq, mstep_eq, mstep_eq, Nat.xor_div_two, xor_mod2]
  have ha : a % 2 = 0 ∨ a % 2 = 1 := by omega
  have hb : b % 2 = 0 ∨ b % 2 = 1 := by omega
  rcases ha with ha | ha <;> rcases hb with hb | hb <;> rw [ha, hb]
  · simp
  · simp [Nat.xor_assoc]
  · have e : (1 + 0) % 2 = 1 := rfl
    rw [e]
    simp only [Nat.zero_mul, Nat.one_mul, Nat.xor_zero]
    rw [Nat.xor_assoc, Nat.xor_assoc, Nat.xor_comm (b / 2)]
  · have e : (1 + 1) % 2 = 0 := rfl
    rw [e]
    simp only [Nat.zero_mul, Nat.one_mul, Nat.xor_zero]
    rw [Nat.xor_assoc, ← Nat.xor_assoc 3988292384, Nat.xor_comm 3988292384 (b / 2), Nat.xor_assoc, Nat.xor_self, Nat.xor_zero]

theorem moves_xor (k a b : Nat) : moves k (a ^^^ b) = moves k a ^^^ moves k b := by
  induction k with
  | zero => rfl
  | succ k ih => show mstep _ = _; rw [ih, mstep_xor]; rfl

theorem xor4 (a b c d : Nat) : (a ^^^ b) ^^^ (c ^^^ d) = (a ^^^ c) ^^^ (b ^^^ d) := by
  rw [Nat.xor_assoc, ← Nat.xor_assoc b, Nat.xor_comm b c, Nat.xor_assoc c, ← Nat.xor_assoc]

theorem upd_xor (r s x y : Nat) : upd (r ^^^ s) (x ^^^ y) = upd r x ^^^ upd s y := by
  unfold upd tab
  have e1 : (r ^^^ s) % 256 = (r % 256) ^^^ (s % 256) := Nat.xor_mod_two_pow (n := 8)
  have e2 : (r ^^^ s) / 256 = (r / 256) ^^^ (s / 256) := Nat.xor_div_two_pow (n := 8)
  rw [e1, e2, xor4, moves_xor, xor4]

/-- Two texts laid over each other. -/
def over : List UInt8 → List UInt8 → List UInt8 := List.zipWith (· ^^^ ·)

theorem run_over : ∀ (l m : List UInt8) (r s : Nat), l.length = m.length → run (r ^^^ s) (over l m) = run r l ^^^ run s m
  | [], [], _, _, _ => rfl
  | x :: l, y :: m, r, s, h => by
    show run (upd (r ^^^ s) (x ^^^ y).toNat) (over l m) = run (upd r x.toNat) l ^^^ run (upd s y.toNat) m
    rw [UInt8.toNat_xor, upd_xor]
    exact run_over l m _ _ (by simpa using h)

theorem not_xor {c : Nat} (h : c < 4294967296) : 4294967295 - c = 4294967295 ^^^ c := by
  have e := BitVec.toNat_not (x := BitVec.ofNat 32 c)
  have e2 : (~~~ BitVec.ofNat 32 c) = BitVec.allOnes 32 ^^^ BitVec.ofNat 32 c := by rw [BitVec.allOnes_xor]
  rw [e2, BitVec.toNat_xor, BitVec.toNat_allOnes, BitVec.toNat_ofNat, Nat.mod_eq_of_lt (by omega)] at e
  exact (by simpa using e : 4294967295 ^^^ c = 4294967295 - c).symm

theorem more0 (l : List UInt8) : more 0 l = 4294967295 ^^^ run 4294967295 l := by
  unfold more
  rw [not_xor (run_lt l (by omega))]

theorem more_over3 (l m k : List UInt8) (h1 : l.length = m.length) (h2 : m.length = k.length) : more 0 (over (over l m) k) = (more 0 l ^^^ more 0 m) ^^^ more 0 k := by
  rw [more0, more0, more0, more0]
  have e : run 4294967295 (over (over l m) k) = (run 4294967295 l ^^^ run 4294967295 m) ^^^ run 4294967295 k := by
    have e1 := run_over (over l m) k (4294967295 ^^^ 4294967295) 4294967295 (by simp [over]; omega)
    rw [run_over l m 4294967295 4294967295 h1] at e1
    simpa using e1
  rw [e]
  generalize run 4294967295 l = x
  generalize run 4294967295 m = y
  generalize run 4294967295 k = z
  generalize 4294967295 = u
  rw [xor4 u x u y, Nat.xor_self, Nat.zero_xor, ← Nat.xor_assoc (x ^^^ y) u z, Nat.xor_comm (x ^^^ y) u, Nat.xor_assoc u]
end Go.Proofs.Ytedhecbcpcmlmaa.Crc
