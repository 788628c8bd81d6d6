/-
  OctetBack, walked.
-/
import Derived.Test.YtedhecbcpcmlmaaPuts
namespace Go.Proofs.Ytedhecbcpcmlmaa
open Go.RowKit

theorem first_numB : ∀ (f n k acc : Nat) (rest : List UInt8), n < 128 ^ (f + 1) → n * 128 ^ k < 18446744073709551616 → (0 < k → 0 < n) → first k acc (Oct.numB f n ++ rest) = (acc + n * 128 ^ k, k + (Oct.numB f n).length, 0) := by
  intro f
  induction f with
  | zero =>
    intro n k acc rest h1 h2 h3
    have hn : n < 128 := by simpa using h1
    rw [Oct.numB_small 0 hn]
    have hb : (UInt8.ofNat n).toNat = n := Oct.byte_toNat n (by omega)
    have := first_end k acc (UInt8.ofNat n) rest ?_ ?_ (by rw [hb]; exact hn)
    · rw [hb, Nat.mod_eq_of_lt hn] at this; exact this
    · rintro ⟨rfl, h⟩
      rw [hb] at h
      have : 2 * 128 ^ 9 ≤ n * 128 ^ 9 := Nat.mul_le_mul (by omega) (Nat.le_refl _)
      have e : 2 * (128 : Nat) ^ 9 = 18446744073709551616 := by decide
      omega
    · rintro ⟨hk, h⟩
      rw [hb] at h
      have := h3 hk; omega
  | succ f ih =>
    intro n k acc rest h1 h2 h3
    by_cases hn : n < 128
    · rw [Oct.numB_small (f + 1) hn]
      have hb : (UInt8.ofNat n).toNat = n := Oct.byte_toNat n (by omega)
      have := first_end k acc (UInt8.ofNat n) rest ?_ ?_ (by rw [hb]; exact hn)
      · rw [hb, Nat.mod_eq_of_lt hn] at this; exact this
      · rintro ⟨rfl, h⟩
        rw [hb] at h
        have : 2 * 128 ^ 9 ≤ n * 128 ^ 9 := Nat.mul_le_mul (by omega) (Nat.le_refl _)
        have e : 2 * (128 : Nat) ^ 9 = 18446744073709551616 := by decide
        omega
      · rintro ⟨hk, h⟩
        rw [hb] at h
        have := h3 hk; omega
    · rw [Oct.numB_more f hn]
      have hb : (UInt8.ofNat (n % 128 + 128)).toNat = n % 128 + 128 := Oct.byte_toNat _ (by omega)
      have hg := first_go k acc (UInt8.ofNat (n % 128 + 128)) (Oct.numB f (n / 128) ++ rest) ?_ ?_ (by rw [hb]; omega)
      · rw [List.cons_append, hg, hb, show (n % 128 + 128) % 128 = n % 128 by omega]
        rw [ih (n / 128) (k + 1) _ rest ?_ ?_ (fun _ => by omega)]
        · refine Prod.ext ?_ (Prod.ext ?_ rfl)
          · show acc + n % 128 * 128 ^ k + n / 128 * 128 ^ (k + 1) = acc + n * 128 ^ k
            rw [Nat.pow_succ, ← Nat.mul_assoc, Nat.mul_right_comm, Nat.add_assoc, ← Nat.add_mul]
            congr 2; omega
          · show k + 1 + (Oct.numB f (n / 128)).length = k + (UInt8.ofNat (n % 128 + 128) :: Oct.numB f (n / 128)).length
            simp; omega
        · rw [Nat.pow_succ] at h1
          exact Nat.div_lt_of_lt_mul (by omega)
        · refine Nat.lt_of_le_of_lt ?_ h2
          rw [Nat.pow_succ, ← Nat.mul_assoc, Nat.mul_right_comm]
          exact Nat.mul_le_mul (Nat.div_mul_le_self _ _) (Nat.le_refl _)
      · rintro ⟨rfl, _⟩
        have : 2 * 128 ^ 9 ≤ n * 128 ^ 9 := Nat.mul_le_mul (by omega) (Nat.le_refl _)
        have e : 2 * (128 : Nat) ^ 9 = 18446744073709551616 := by decide
        omega
      · rintro ⟨_, h⟩
        rw [hb] at h; omega

theorem first_num (n : Nat) (rest : List UInt8) (h : n < 18446744073709551616) : first 0 0 (Oct.numB 9 n ++ rest) = (n, (Oct.numB 9 n).length, 0) := by
  have := first_numB 9 n 0 0 rest (Nat.lt_trans h (by decide)) (by simpa using h) (fun h => absurd h (Nat.lt_irrefl _))
  simpa using this

theorem ext_front (l m : List UInt8) (n : Nat) (h : n = l.length) : (⟨(l ++ m).toArray⟩ : ByteArray).extract 0 n = ⟨l.toArray⟩ := by
  subst h
  apply ByteArray.ext
  simp
theorem ext_back (l m : List UInt8) (n : Nat) (h : n = l.length) : (⟨(l ++ m).toArray⟩ : ByteArray).extract n (⟨(l ++ m).toArray⟩ : ByteArray).size = ⟨m.toArray⟩ := by
  subst h
  apply ByteArray.ext
  have : (⟨(l ++ m).toArray⟩ : ByteArray).size = l.length + m.length := by
    show (l ++ m).toArray.size = _
    simp
  rw [this]
  simp

theorem pNum_num (n : Nat) (rest : List UInt8) (er most : Nat) (h : n < 18446744073709551616) (hm : n ≤ most) : pNum ⟨(Oct.numB 9 n ++ rest).toArray⟩ er most = (n, ⟨rest.toArray⟩, er) := by
  unfold pNum
  rw [show (⟨(Oct.numB 9 n ++ rest).toArray⟩ : ByteArray).data.toList = Oct.numB 9 n ++ rest by simp, first_num n rest h]
  rw [if_neg (by simp), if_neg (by simp only; omega)]
  exact Prod.ext rfl (Prod.ext (ext_back _ _ _ rfl) rfl)
theorem pBytes_front (l rest : List UInt8) (er n : Nat) (h : n = l.length) (h0 : 0 < n) : pBytes ⟨(l ++ rest).toArray⟩ er (n : Int) = (⟨l.toArray⟩, ⟨rest.toArray⟩, er) := by
  unfold pBytes
  have hsz : (⟨(l ++ rest).toArray⟩ : ByteArray).size = l.length + rest.length := by
    show (l ++ rest).toArray.size = _
    simp
  rw [if_neg (by omega), if_neg (by rw [hsz]; omega), Int.toNat_natCast]
  exact Prod.ext (ext_front _ _ _ h) (Prod.ext (ext_back _ _ _ h) rfl)
theorem pBytes_zero (s : ByteArray) (er : Nat) : pBytes s er 0 = (ByteArray.empty, s, er) := by unfold pBytes; rw [if_pos (by omega)]

theorem zig_lt {m : Int} (h0 : -9223372036854775808 ≤ m) (h1 : m ≤ 9223372036854775807) : Oct.zig m < 18446744073709551616 := by
  unfold Oct.zig; split <;> omega
theorem le_fix (k n : Nat) (h : n < 256 ^ k) : Oct.leB (Oct.fixB k n) = n := by rw [Oct.leB_fixB, Nat.mod_eq_of_lt h]

set_option maxRecDepth 10000 in
set_option maxHeartbeats 800000 in
theorem octetBack_any (n : Nat) (m : Int) (wd : Nat) (s : ByteArray) (w : World) (hn : n < 18446744073709551616) (h0 : -9223372036854775808 ≤ m) (h1 : m ≤ 9223372036854775807) (hw : wd < 4294967296) (hs : s.size ≤ maxLen) :
    Calls Try.prog 5 #[.int .u64 (n : Int), .int .i64 m, .int .u32 (wd : Int), .string s] w fun e w' => e = .returned (.bool true) ∧ Below w.heap.size w w' := by
  go_enter Try.func5, Try.ntmps5
  go_wp2_with fail
  refine (cut_any s 100 _ hs).mono ?_
  rintro e w1 ⟨rfl, rfl⟩
  have hs2 : (s.extract 0 100).size ≤ 100 := by rw [extract_size]; omega
  generalize s.extract 0 100 = t at *
  go_wp2_with fail
  refine (num_any (.slice none 0 0) [] n _ (Sl.Own.nil _) (by decide) hn).mono ?_
  rintro e w2 ⟨v2, rfl, ho2, hf2, _⟩
  have l1 := Oct.numB_length 9 n
  have l2 := Oct.numB_length 9 (Oct.zig m)
  have l3 := Oct.fixB_length 4 wd
  have l4 := Oct.numB_length 9 t.size
  go_wp2_with fail
  refine (int_any v2 _ m _ ho2 (by simp [Sl.cells_length]; omega) h0 h1).mono ?_
  rintro e w3 ⟨v3, rfl, ho3, hf3, _⟩
  go_wp2_with fail
  refine (word_any v3 _ wd _ ho3 (by simp [Sl.cells_length]; omega) hw).mono ?_
  rintro e w4 ⟨v4, rfl, ho4, hf4, _⟩
  go_wp2_with fail
  refine (str_any v4 _ t _ ho4 (by simp [Sl.cells_length, l3]; omega) (by omega)).mono ?_
  rintro e w5 ⟨v5, rfl, ho5, hf5, _⟩
  go_wp2_with fail
  refine (long_any v5 _ n _ ho5 (by simp [Sl.cells_length, l3]; omega) hn).mono ?_
  rintro e w6 ⟨v6, rfl, ho6, hf6, _⟩
  have hk : Reg.Keeps w1 w6 := ((((hf2.trans hf3).trans hf4).trans hf5).trans hf6).keepsNil
  simp only [List.nil_append, ← Sl.cells_append, List.append_assoc] at ho6
  clear ho2 ho3 ho4 ho5 hf2 hf3 hf4 hf5 hf6
  have hst := str_of w6 v6 _ ho6
  clear ho6
  have e1 := pNum_num n (Oct.numB 9 (Oct.zig m) ++ (Oct.fixB 4 wd ++ (Oct.numB 9 t.size ++ (t.data.toList ++ Oct.fixB 8 n)))) 0 n hn (Nat.le_refl _)
  have e2 := pNum_num (Oct.zig m) (Oct.fixB 4 wd ++ (Oct.numB 9 t.size ++ (t.data.toList ++ Oct.fixB 8 n))) 0 18446744073709551615 (zig_lt h0 h1) (by have := zig_lt h0 h1; omega)
  have e3 : pBytes ⟨(Oct.fixB 4 wd ++ (Oct.numB 9 t.size ++ (t.data.toList ++ Oct.fixB 8 n))).toArray⟩ 0 4 = (⟨(Oct.fixB 4 wd).toArray⟩, ⟨(Oct.numB 9 t.size ++ (t.data.toList ++ Oct.fixB 8 n)).toArray⟩, 0) := pBytes_front (Oct.fixB 4 wd) (Oct.numB 9 t.size ++ (t.data.toList ++ Oct.fixB 8 n)) 0 4 l3.symm (by omega)
  have e4 : pStr ⟨(Oct.numB 9 t.size ++ (t.data.toList ++ Oct.fixB 8 n)).toArray⟩ 0 t.size = (t, ⟨(Oct.fixB 8 n).toArray⟩, 0) := by
    unfold pStr
    rw [pNum_num t.size _ 0 t.size (by omega) (Nat.le_refl _)]
    by_cases hz : t.size = 0
    · have ht : t = ByteArray.empty := by
        apply ByteArray.ext
        rw [Array.eq_empty_of_size_eq_zero (show t.data.size = 0 from hz)]; rfl
      subst ht
      exact pBytes_zero _ _
    · exact pBytes_front t.data.toList (Oct.fixB 8 n) 0 t.size (by simp) (by omega)
  have e5 : pBytes ⟨(Oct.fixB 8 n).toArray⟩ 0 8 = (⟨(Oct.fixB 8 n).toArray⟩, ByteArray.empty, 0) := by
    have := pBytes_front (Oct.fixB 8 n) [] 0 8 (Oct.fixB_length 8 n).symm (by omega)
    rw [List.append_nil] at this; exact this
  have e6 := le_fix 4 wd hw
  have e7 := le_fix 8 n hn
  have hz := zag_zig m
  have hl0 : (⟨(Oct.numB 9 n ++ (Oct.numB 9 (Oct.zig m) ++ (Oct.fixB 4 wd ++ (Oct.numB 9 t.size ++ (t.data.toList ++ Oct.fixB 8 n))))).toArray⟩ : ByteArray).size ≤ maxLen := by
    have l5 := Oct.fixB_length 8 n
    show (Oct.numB 9 n ++ (Oct.numB 9 (Oct.zig m) ++ (Oct.fixB 4 wd ++ (Oct.numB 9 t.size ++ (t.data.toList ++ Oct.fixB 8 n))))).toArray.size ≤ maxLen
    unfold maxLen
    simp [l3, l5]; omega
  generalize (⟨(Oct.numB 9 n ++ (Oct.numB 9 (Oct.zig m) ++ (Oct.fixB 4 wd ++ (Oct.numB 9 t.size ++ (t.data.toList ++ Oct.fixB 8 n))))).toArray⟩ : ByteArray) = S0 at *
  generalize (⟨(Oct.numB 9 (Oct.zig m) ++ (Oct.fixB 4 wd ++ (Oct.numB 9 t.size ++ (t.data.toList ++ Oct.fixB 8 n)))).toArray⟩ : ByteArray) = S1 at *
  generalize (⟨(Oct.fixB 4 wd ++ (Oct.numB 9 t.size ++ (t.data.toList ++ Oct.fixB 8 n))).toArray⟩ : ByteArray) = S2 at *
  generalize (⟨(Oct.numB 9 t.size ++ (t.data.toList ++ Oct.fixB 8 n)).toArray⟩ : ByteArray) = S3 at *
  have E1 := hid e1
  have E2 := hid e2
  have E3 := hid e3
  have E4 := hid e4
  have E5 := hid e5
  have E6 := hid e6
  have E7 := hid e7
  have HZ := hid hz
  clear e1 e2 e3 e4 e5 e6 e7 hz l1 l2 l3 l4
  go_wp2_with fail
  refine (of_any _ _ hl0).mono ?_
  rintro e w7 ⟨rfl, hi7, hk7⟩
  clear hst
  generalize hb : w6.heap.size = b at *
  have hbk : w1.heap.size ≤ b := hb ▸ hk.size
  have HK : Hid (Reg.Keeps w1 w7) := hk.trans hk7
  clear hb hk hk7
  go_wp2_with fail
  refine (awake1_any _).mono ?_
  rintro e w8 ⟨rfl, hk8⟩
  have hi8 := hi7.keeps hk8
  have HK8 : Hid (Reg.Keeps w1 w8) := HK.out.trans hk8
  clear hi7 hk8 HK
  go_wp2_with fail
  refine (inNum_any b S0 0 n _ hi8).mono ?_
  rw [E1.out]
  rintro e w9 ⟨rfl, hi9, hb9⟩
  go_wp2_with fail
  refine (inInt_any b S1 0 _ hi9).mono ?_
  rw [E2.out]
  rintro e w10 ⟨rfl, hi10, hb10⟩
  rw [HZ.out]
  go_wp2_with fail
  refine (inWord_any b S2 0 _ hi10).mono ?_
  rw [E3.out]
  rintro e w11 ⟨rfl, hi11, hb11⟩
  rw [show (⟨(Oct.fixB 4 wd).toArray⟩ : ByteArray).data.toList = Oct.fixB 4 wd by simp, E6.out]
  go_wp2_with fail
  refine (inStr_any b S3 0 (t.size : Int) _ hi11 (by omega) (by omega)).mono ?_
  rw [Int.toNat_natCast, E4.out]
  rintro e w12 ⟨rfl, hi12, hb12⟩
  go_wp2_with fail
  refine (inLong_any b _ 0 _ hi12).mono ?_
  rw [E5.out]
  rintro e w13 ⟨rfl, hi13, hb13⟩
  rw [show (⟨(Oct.fixB 8 n).toArray⟩ : ByteArray).data.toList = Oct.fixB 8 n by simp, E7.out]
  go_wp2_with fail
  refine (end_any b _ 0 _ hi13).mono ?_
  rw [show pEnd ByteArray.empty 0 = 0 from rfl]
  rintro e w14 ⟨rfl, hi14, hb14⟩
  go_wp2_with fail
  refine (left_any b _ 0 _ hi14).mono ?_
  rintro e w15 ⟨rfl, rfl⟩
  go_wp2
  go_ret
  refine ⟨rfl, Below.trans HK8.out (But.below (b := b) ?_ hbk HK8.out.size)⟩
  exact ((((hb9.trans hb10).trans hb11).trans hb12).trans hb13).trans hb14

theorem wf_u64 {a : Int} (h : (Lit.int .u64 a).wf = true) : 0 ≤ a ∧ a < 18446744073709551616 := by
  have : 0 ≤ a ∧ a ≤ 18446744073709551615 := by simpa [Lit.wf, IntKind.min, IntKind.max, IntKind.signed, IntKind.bits] using h
  omega
theorem wf_u32 {a : Int} (h : (Lit.int .u32 a).wf = true) : 0 ≤ a ∧ a < 4294967296 := by
  have : 0 ≤ a ∧ a ≤ 4294967295 := by simpa [Lit.wf, IntKind.min, IntKind.max, IntKind.signed, IntKind.bits] using h
  omega
theorem wf_i64 {a : Int} (h : (Lit.int .i64 a).wf = true) : -9223372036854775808 ≤ a ∧ a ≤ 9223372036854775807 := by
  simpa [Lit.wf, IntKind.min, IntKind.max, IntKind.signed, IntKind.bits] using h

theorem octetBack_row (a0 a1 a2 : Int) (a3 : ByteArray) (w0 : (Lit.int .u64 a0).wf = true) (w1 : (Lit.int .i64 a1).wf = true) (w2 : (Lit.int .u32 a2).wf = true) (w3 : a3.size ≤ maxLen) (w : World) :
    Calls Try.prog 5 #[.int .u64 a0, .int .i64 a1, .int .u32 a2, .string a3] w fun e w' => e = .returned (.bool true) ∧ Below w.heap.size w w' := by
  obtain ⟨n, rfl⟩ := Int.eq_ofNat_of_zero_le (wf_u64 w0).1
  obtain ⟨k, rfl⟩ := Int.eq_ofNat_of_zero_le (wf_u32 w2).1
  exact octetBack_any n a1 k a3 w (by have := (wf_u64 w0).2; omega) (wf_i64 w1).1 (wf_i64 w1).2 (by have := (wf_u32 w2).2; omega) w3
end Go.Proofs.Ytedhecbcpcmlmaa
