/-
  Contracts of octet's other functions, and of their references.
-/
import Derived.Test.YtedhecbcpcmlmaaIn3
namespace Go.Proofs.Ytedhecbcpcmlmaa
open Go.RowKit

theorem num_int (v : Value) (xs : List Value) (x : Int) (w : World) (hown : Sl.Own w v xs) (hx : xs.length ≤ 549755813888) (h0 : 0 ≤ x) (h1 : x < 18446744073709551616) :
    Calls Try.prog 19 #[v, .int .u64 x] w fun e w' => ∃ v', e = .returned v' ∧ Sl.Own w' v' (xs ++ Sl.cells (Oct.numB 9 x.toNat)) ∧ Sl.Frame w w' v v' ∧ v' ≠ .slice none 0 0 := by
  obtain ⟨n, rfl⟩ := Int.eq_ofNat_of_zero_le h0
  exact num_any v xs n w hown hx (by omega)
theorem num2_int (x : Int) (w : World) (h0 : 0 ≤ x) (h1 : x < 18446744073709551616) :
    Calls Try.prog 24 #[.int .u64 x] w fun e w' => e = .returned (.string ⟨(Oct.numB 9 x.toNat).toArray⟩) ∧ Reg.Keeps w w' := by
  obtain ⟨n, rfl⟩ := Int.eq_ofNat_of_zero_le h0
  exact num2_any n w (by omega)

theorem zig_neg {m : Int} (h : m < 0) : Oct.zig m = (-m - 1).toNat * 2 + 1 := if_pos h
theorem zig_pos {m : Int} (h : ¬ m < 0) : Oct.zig m = m.toNat * 2 := if_neg h

theorem not_i64 {m : Int} (h0 : -9223372036854775808 ≤ m) (h1 : m ≤ 9223372036854775807) : bits BinOp.xor IntKind.i64 (-1) m = -m - 1 := by
  have e : BitVec.ofInt 64 (-1) ^^^ BitVec.ofInt 64 m = ~~~ BitVec.ofInt 64 m := by
    rw [← BitVec.allOnes_xor]; rfl
  show IntKind.i64.wrap ((BitVec.ofInt 64 (-1) ^^^ BitVec.ofInt 64 m).toNat : Int) = _
  rw [e, BitVec.toNat_not, BitVec.toNat_ofInt, IntKind.wrap_i64]
  have h2 : (m % ((2 ^ 64 : Nat) : Int)).toNat = (if m < 0 then m + 18446744073709551616 else m).toNat := by split <;> omega
  rw [h2]
  split <;> omega

set_option maxHeartbeats 400000 in
theorem int_any (v : Value) (xs : List Value) (m : Int) (w : World) (hown : Sl.Own w v xs) (hx : xs.length ≤ 549755813888) (h0 : -9223372036854775808 ≤ m) (h1 : m ≤ 9223372036854775807) :
    Calls Try.prog 21 #[v, .int .i64 m] w fun e w' => ∃ v', e = .returned v' ∧ Sl.Own w' v' (xs ++ Sl.cells (Oct.numB 9 (Oct.zig m))) ∧ Sl.Frame w w' v v' ∧ v' ≠ .slice none 0 0 := by
  by_cases hm : m < 0
  · have hx' := not_i64 h0 h1
    have Hz : Hid ((IntKind.u64.wrap (IntKind.u64.wrap (IntKind.u64.wrap (-m - 1) * 2) + 1)).toNat = Oct.zig m) := by
      show _ = _
      rw [zig_neg hm]; simp only [IntKind.wrap_u64]; omega
    go_enter Try.func21, Try.ntmps21
    go_wp2_with fail
    refine (num_int v xs _ _ hown hx ?_ ?_).mono ?_
    · simp only [IntKind.wrap_u64]; omega
    · simp only [IntKind.wrap_u64]; omega
    rintro e w' ⟨v', rfl, h2, h3⟩
    rw [Hz.out] at h2
    go_wp2
    go_ret
    exact ⟨_, rfl, h2, h3⟩
  · have Hz : Hid ((m * 2).toNat = Oct.zig m) := by
      show _ = _
      rw [zig_pos hm]; omega
    go_enter Try.func21, Try.ntmps21
    go_wp2_with fail
    refine (num_int v xs _ _ hown hx ?_ ?_).mono ?_
    · omega
    · omega
    rintro e w' ⟨v', rfl, h2, h3⟩
    rw [Hz.out] at h2
    go_wp2
    go_ret
    exact ⟨_, rfl, h2, h3⟩

set_option maxHeartbeats 400000 in
theorem refInt_any (m : Int) (w : World) (h0 : -9223372036854775808 ≤ m) (h1 : m ≤ 9223372036854775807) :
    Calls Try.prog 22 #[.int .i64 m] w fun e w' => e = .returned (.string ⟨(Oct.numB 9 (Oct.zig m)).toArray⟩) ∧ Reg.Keeps w w' := by
  by_cases hm : m < 0
  · have Hz : Hid ((-(m + 1) * 2 + 1).toNat = Oct.zig m) := by
      show _ = _
      rw [zig_neg hm]; omega
    go_enter Try.func22, Try.ntmps22
    go_wp2_with fail
    refine (num2_int _ _ ?_ ?_).mono ?_
    · omega
    · omega
    rintro e w' ⟨rfl, h2⟩
    rw [Hz.out]
    go_wp2
    go_ret
    exact ⟨rfl, h2⟩
  · have Hz : Hid ((m * 2).toNat = Oct.zig m) := by
      show _ = _
      rw [zig_pos hm]; omega
    go_enter Try.func22, Try.ntmps22
    go_wp2_with fail
    refine (num2_int _ _ ?_ ?_).mono ?_
    · omega
    · omega
    rintro e w' ⟨rfl, h2⟩
    rw [Hz.out]
    go_wp2
    go_ret
    exact ⟨rfl, h2⟩

/-- The number that may be below 0, out of that of its bytes. -/
def zag (n : Nat) : Int := if n % 2 = 1 then -((n / 2 : Nat) : Int) - 1 else ((n / 2 : Nat) : Int)
theorem zag_zig (m : Int) : zag (Oct.zig m) = m := by
  unfold zag
  by_cases h : m < 0
  · rw [zig_neg h, if_pos (by omega)]; omega
  · rw [zig_pos h, if_neg (by omega)]; omega

theorem pNum_lt (s : ByteArray) (er most : Nat) : (pNum s er most).1 < 18446744073709551616 := by
  unfold pNum
  split
  · simp
  · split
    · simp
    · exact first_lt _ 0 0 (by omega) (by simp)

set_option maxHeartbeats 400000 in
theorem inInt_any (b : Nat) (s : ByteArray) (er : Nat) (w : World) (h : InAt w b s er) :
    Calls Try.prog 29 #[.pointer (some ⟨b, 0, none⟩)] w fun e w' => e = .returned (.int .i64 (zag (pNum s er 18446744073709551615).1)) ∧ InAt w' b (pNum s er 18446744073709551615).2.1 (pNum s er 18446744073709551615).2.2 ∧ But b w w' := by
  have hl := pNum_lt s er 18446744073709551615
  have hc := fun w h => inNum_any b s er 18446744073709551615 w h
  generalize pNum s er 18446744073709551615 = p at *
  obtain ⟨n, s', er'⟩ := p
  go_enter Try.func29, Try.ntmps29
  go_wp2_with fail
  refine (hc _ h).mono ?_
  clear hc
  rintro e w' ⟨rfl, hi, hbut⟩
  have hl' : n < 18446744073709551616 := hl
  clear hl
  by_cases hp : n % 2 = 1
  · have hx := not_i64 (m := ((n / 2 : Nat) : Int)) (by omega) (by omega)
    have hx2 : bits BinOp.xor IntKind.i64 (-1) ((n : Int) / 2) = zag n := by unfold zag; rw [if_pos hp, ← hx]; rfl
    clear hx
    go_wp2
    go_ret
    exact ⟨rfl, hi, hbut⟩
  · have Hz : Hid (zag n = ((n / 2 : Nat) : Int)) := by show _ = _; unfold zag; rw [if_neg hp]
    go_wp2
    go_ret
    exact ⟨ret_int (by rw [Hz.out]; rfl), hi, hbut⟩

theorem pBytes_size (s : ByteArray) (er : Nat) (n : Int) : (pBytes s er n).1.size ≤ n.toNat := by
  unfold pBytes
  split
  · simp
  · split
    · simp
    · simp; omega

set_option maxHeartbeats 400000 in
theorem inWord_any (b : Nat) (s : ByteArray) (er : Nat) (w : World) (h : InAt w b s er) :
    Calls Try.prog 30 #[.pointer (some ⟨b, 0, none⟩)] w fun e w' => e = .returned (.int .u32 (Oct.leB (pBytes s er 4).1.data.toList : Nat)) ∧ InAt w' b (pBytes s er 4).2.1 (pBytes s er 4).2.2 ∧ But b w w' := by
  have hl := pBytes_size s er 4
  have hc := fun w h => bytes_any b s er 4 w h
  generalize pBytes s er 4 = p at *
  obtain ⟨r, s', er'⟩ := p
  have hl' : r.size ≤ 4 := hl
  clear hl
  go_enter Try.func30, Try.ntmps30
  go_wp2_with fail
  refine (hc _ h).mono ?_
  clear hc
  rintro e w' ⟨rfl, hi, hbut⟩
  go_wp2_with fail
  refine (from32_any _ _ hl').mono ?_
  rintro e w'' ⟨rfl, rfl⟩
  go_wp2
  go_ret
  exact ⟨rfl, hi, hbut⟩
set_option maxHeartbeats 400000 in
theorem inLong_any (b : Nat) (s : ByteArray) (er : Nat) (w : World) (h : InAt w b s er) :
    Calls Try.prog 32 #[.pointer (some ⟨b, 0, none⟩)] w fun e w' => e = .returned (.int .u64 (Oct.leB (pBytes s er 8).1.data.toList : Nat)) ∧ InAt w' b (pBytes s er 8).2.1 (pBytes s er 8).2.2 ∧ But b w w' := by
  have hl := pBytes_size s er 8
  have hc := fun w h => bytes_any b s er 8 w h
  generalize pBytes s er 8 = p at *
  obtain ⟨r, s', er'⟩ := p
  have hl' : r.size ≤ 8 := hl
  clear hl
  go_enter Try.func32, Try.ntmps32
  go_wp2_with fail
  refine (hc _ h).mono ?_
  clear hc
  rintro e w' ⟨rfl, hi, hbut⟩
  go_wp2_with fail
  refine (from64_any _ _ hl').mono ?_
  rintro e w'' ⟨rfl, rfl⟩
  go_wp2
  go_ret
  exact ⟨rfl, hi, hbut⟩

set_option maxHeartbeats 400000 in
theorem inByte_any (b : Nat) (s : ByteArray) (er : Nat) (w : World) (h : InAt w b s er) :
    Calls Try.prog 38 #[.pointer (some ⟨b, 0, none⟩)] w fun e w' => e = .returned (.int .u8 (Oct.leB (pBytes s er 1).1.data.toList : Nat)) ∧ InAt w' b (pBytes s er 1).2.1 (pBytes s er 1).2.2 ∧ But b w w' := by
  have hl := pBytes_size s er 1
  have hc := fun w h => bytes_any b s er 1 w h
  generalize pBytes s er 1 = p at *
  obtain ⟨r, s', er'⟩ := p
  have hl' : r.size ≤ 1 := hl
  clear hl
  by_cases h0 : r.size = 0
  · have e0 : r = ByteArray.empty := by
      apply ByteArray.ext
      rw [Array.eq_empty_of_size_eq_zero (show r.data.size = 0 from h0)]; rfl
    subst e0
    clear h0 hl'
    go_enter Try.func38, Try.ntmps38
    go_wp2_with fail
    refine (hc _ h).mono ?_
    clear hc
    rintro e w' ⟨rfl, hi, hbut⟩
    go_wp2
    go_ret
    exact ⟨rfl, hi, hbut⟩
  · have h1 : r.size = 1 := by omega
    have hd : r.data.toList = [r[0]] := by
      have hlen : r.data.toList.length = 1 := by simpa using h1
      match hr : r.data.toList, hlen with
      | [c], _ =>
        have : r.data[0]'(by rw [show r.data.size = 1 from h1]; omega) = c := by
          rw [← Array.getElem_toList]; simp [hr]
        rw [← this]; rfl
    have Hv : Hid (Oct.leB r.data.toList = r[0].toNat) := by show _ = _; rw [hd]; simp [Oct.leB]
    have hne : r.toList.isEmpty = false := by rw [ByteArray.toList_eq, hd]; rfl
    clear hd
    go_enter Try.func38, Try.ntmps38
    go_wp2_with fail
    refine (hc _ h).mono ?_
    clear hc
    rintro e w' ⟨rfl, hi, hbut⟩
    go_wp2
    go_ret
    exact ⟨ret_int (by rw [Hv.out]), hi, hbut⟩

/-- Str: what is taken, what is left, the error. -/
def pStr (s : ByteArray) (er most : Nat) : ByteArray × ByteArray × Nat := pBytes (pNum s er most).2.1 (pNum s er most).2.2 ((pNum s er most).1 : Int)

set_option maxHeartbeats 400000 in
theorem inStr_any (b : Nat) (s : ByteArray) (er : Nat) (m : Int) (w : World) (h : InAt w b s er) (h0 : -9223372036854775808 ≤ m) (h1 : m ≤ 9223372036854775807) :
    Calls Try.prog 31 #[.pointer (some ⟨b, 0, none⟩), .int .i64 m] w fun e w' => e = .returned (.string (pStr s er m.toNat).1) ∧ InAt w' b (pStr s er m.toNat).2.1 (pStr s er m.toNat).2.2 ∧ But b w w' := by
  have hl : (pNum s er m.toNat).1 ≤ m.toNat := by
    unfold pNum
    split
    · simp
    · split
      · simp
      · simp only; omega
  have hc := fun w h => inNum_any b s er m.toNat w h
  unfold pStr
  generalize pNum s er m.toNat = p at *
  obtain ⟨n, s', er'⟩ := p
  have hl' : n ≤ m.toNat := hl
  clear hl
  have hc2 := fun w h => bytes_any b s' er' (n : Int) w h
  show Calls Try.prog 31 _ w fun e w' => e = .returned (.string (pBytes s' er' (n : Int)).1) ∧ InAt w' b (pBytes s' er' (n : Int)).2.1 (pBytes s' er' (n : Int)).2.2 ∧ But b w w'
  generalize pBytes s' er' (n : Int) = q at *
  obtain ⟨r, s2, er2⟩ := q
  have Hc := hid hc
  have Hc2 := hid hc2
  clear hc hc2
  by_cases hm : m < 0
  · have hmt : m.toNat = 0 := by omega
    rw [hmt] at Hc hl'
    go_enter Try.func31, Try.ntmps31
    go_wp2_with fail
    refine (Hc.out _ h).mono ?_
    rintro e w' ⟨rfl, hi, hbut⟩
    go_wp2_with fail
    refine (Hc2.out _ hi).mono ?_
    rintro e w'' ⟨rfl, hi2, hbut2⟩
    go_wp2
    go_ret
    exact ⟨rfl, hi2, hbut.trans hbut2⟩
  · obtain ⟨k, rfl⟩ := Int.eq_ofNat_of_zero_le (show 0 ≤ m by omega)
    rw [Int.toNat_natCast] at Hc hl'
    go_enter Try.func31, Try.ntmps31
    go_wp2_with fail
    refine (Hc.out _ h).mono ?_
    rintro e w' ⟨rfl, hi, hbut⟩
    go_wp2_with fail
    refine (Hc2.out _ hi).mono ?_
    rintro e w'' ⟨rfl, hi2, hbut2⟩
    go_wp2
    go_ret
    exact ⟨rfl, hi2, hbut.trans hbut2⟩
end Go.Proofs.Ytedhecbcpcmlmaa
