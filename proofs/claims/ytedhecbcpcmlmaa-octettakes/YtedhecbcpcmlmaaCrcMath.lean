/-
  The plain mathematics of CRC-32 as crc.go reckons it, on Nat: no Go, no program.
-/
namespace Go.Proofs.Ytedhecbcpcmlmaa.Crc

/-- One move of the sum with a bit 0. -/
def mstep (c : Nat) : Nat := if c % 2 = 1 then (c / 2) ^^^ 3988292384 else c / 2

/-- k moves. -/
def moves : Nat → Nat → Nat
  | 0, c => c
  | k + 1, c => mstep (moves k c)

/-- The table's entry. -/
def tab (b : Nat) : Nat := moves 8 b

/-- One byte more. -/
def upd (r x : Nat) : Nat := tab ((r % 256) ^^^ x) ^^^ (r / 256)

def run (r : Nat) (l : List UInt8) : Nat := l.foldl (fun r x => upd r x.toNat) r

def more (s : Nat) (l : List UInt8) : Nat := 4294967295 - run (4294967295 - s) l

theorem mstep_lt {c : Nat} (h : c < 4294967296) : mstep c < 4294967296 := by
  unfold mstep
  split
  · exact Nat.xor_lt_two_pow (n := 32) (by omega) (by omega)
  · omega

theorem moves_lt (k : Nat) {c : Nat} (h : c < 4294967296) : moves k c < 4294967296 := by
  induction k with
  | zero => exact h
  | succ k ih => exact mstep_lt ih

theorem tab_lt {b : Nat} (h : b < 4294967296) : tab b < 4294967296 := moves_lt 8 h

theorem xor_byte_lt {a b : Nat} (ha : a < 256) (hb : b < 256) : a ^^^ b < 256 := Nat.xor_lt_two_pow (n := 8) ha hb

theorem upd_lt {r x : Nat} (h : r < 4294967296) (hx : x < 256) : upd r x < 4294967296 := by
  unfold upd
  have h1 : (r % 256) ^^^ x < 256 := xor_byte_lt (by omega) hx
  exact Nat.xor_lt_two_pow (n := 32) (tab_lt (by omega)) (by omega)

theorem run_append (r : Nat) (l m : List UInt8) : run r (l ++ m) = run (run r l) m := by
  unfold run; rw [List.foldl_append]

theorem run_lt (l : List UInt8) {r : Nat} (h : r < 4294967296) : run r l < 4294967296 := by
  induction l generalizing r with
  | nil => exact h
  | cons x l ih => exact ih (upd_lt h (by have := x.toNat_lt; omega))

theorem more_lt (s : Nat) (l : List UInt8) : more s l < 4294967296 := by unfold more; omega

theorem more_nil {s : Nat} (h : s < 4294967296) : more s [] = s := by unfold more run; simp; omega

theorem more_append {s : Nat} (l m : List UInt8) : more s (l ++ m) = more (more s l) m := by
  unfold more
  have h : run (4294967295 - s) l < 4294967296 := run_lt l (by omega)
  rw [run_append, show 4294967295 - (4294967295 - run (4294967295 - s) l) = run (4294967295 - s) l by omega]

def sumAll : Nat → List (List UInt8) → Nat
  | s, [] => s
  | s, l :: r => sumAll (more s l) r

theorem sumAll_snoc (s : Nat) (ls : List (List UInt8)) (l : List UInt8) : sumAll s (ls ++ [l]) = more (sumAll s ls) l := by
  induction ls generalizing s with
  | nil => rfl
  | cons x r ih => exact ih _

theorem sumAll_lt (ls : List (List UInt8)) {s : Nat} (h : s < 4294967296) : sumAll s ls < 4294967296 := by
  induction ls generalizing s with
  | nil => exact h
  | cons x r ih => exact ih (more_lt _ _)

theorem check : sumAll 0 [[49, 50, 51, 52, 53, 54, 55, 56, 57]] = 3421780262 := by decide +kernel

theorem tab255 : tab 255 ≠ 0 := by decide +kernel

end Go.Proofs.Ytedhecbcpcmlmaa.Crc
