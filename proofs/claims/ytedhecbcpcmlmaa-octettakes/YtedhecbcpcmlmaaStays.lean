/-
  OctetStays, walked.
-/
import Derived.Test.YtedhecbcpcmlmaaPuts
import Derived.Test.YtedhecbcpcmlmaaIn4
namespace Go.Proofs.Ytedhecbcpcmlmaa
open Go.RowKit

/-- The things to take, as they lie in memory. -/
def TakesAt (w : World) (a : Option Addr) (len : Nat) (K M : Nat → Int) : Prop :=
  ∀ i, i < len → ∃ b off, a = some ⟨b, off, none⟩ ∧ b < w.heap.size ∧ w.cell? ⟨b, off + i * 2, none⟩ = some (.int .i64 (K i)) ∧ w.cell? ⟨b, off + i * 2 + 1, none⟩ = some (.int .i64 (M i)) ∧
    (-9223372036854775808 ≤ K i ∧ K i ≤ 9223372036854775807) ∧ (-9223372036854775808 ≤ M i ∧ M i ≤ 9223372036854775807)
theorem TakesAt.below {w w' : World} {a : Option Addr} {len : Nat} {K M : Nat → Int} (h : TakesAt w a len K M) (hb : Below w.heap.size w w') : TakesAt w' a len K M := fun i hi => by
  obtain ⟨b, off, h1, h2, h3, h4, h5⟩ := h i hi
  exact ⟨b, off, h1, Nat.lt_of_lt_of_le h2 hb.size, by rw [hb.cell (p := ⟨b, off + i * 2, none⟩) h2]; exact h3, by rw [hb.cell (p := ⟨b, off + i * 2 + 1, none⟩) h2]; exact h4, h5⟩

/-- What is left to take, and one more where no error stands. -/
def leftIn (w : World) (b : Nat) : Nat :=
  (match w.cell? ⟨b, 0, none⟩ with | some (.string s) => s.size | _ => 0) + (match w.cell? ⟨b, 1, none⟩ with | some (.int _ x) => (if x = 0 then 1 else 0) | _ => 0)
theorem leftIn_at {w : World} {b : Nat} {s : ByteArray} {er : Nat} (h : InAt w b s er) : leftIn w b = s.size + if er = 0 then 1 else 0 := by
  unfold leftIn
  rw [h.c0, h.c1]
  by_cases e : er = 0
  · subst e; simp
  · have : ¬ (er : Int) = 0 := by omega
    simp [e]

theorem pNum_ends (s : ByteArray) (most : Nat) : ((pNum s 0 most).2.2 ≠ 0 ∧ (pNum s 0 most).2.1 = ByteArray.empty) ∨ ((pNum s 0 most).2.2 = 0 ∧ (pNum s 0 most).2.1.size < s.size) := by
  unfold pNum
  split
  · rename_i h
    exact .inl ⟨h, rfl⟩
  · rename_i h
    split
    · exact .inl ⟨by decide, rfl⟩
    · have := first_size s.data.toList 0 0 (by omega)
      refine .inr ⟨rfl, ?_⟩
      have hl : s.data.toList.length = s.size := by simp
      rw [hl] at this
      show (s.extract _ s.size).size < s.size
      have h2 : (s.extract (first 0 0 s.data.toList).2.1 s.size).size = s.size - (first 0 0 s.data.toList).2.1 := by simp
      omega

theorem num_err (b er : Nat) (w : World) (h : InAt w b ByteArray.empty er) (he : er ≠ 0) (most : Nat) : Calls Try.prog 28 #[.pointer (some ⟨b, 0, none⟩), .int .u64 (most : Int)] w fun e w' => e = .returned (.int .u64 0) ∧ InAt w' b ByteArray.empty er ∧ But b w w' := by
  have e : pNum ByteArray.empty er most = (0, ByteArray.empty, er) := by
    show (if (1 : Nat) ≠ 0 then (0, ByteArray.empty, eOr er 1) else _) = _
    rw [if_pos (by decide), eOr_ne _ he]
  have := inNum_any b ByteArray.empty er most w h
  rw [e] at this
  exact this
theorem int_err (b er : Nat) (w : World) (h : InAt w b ByteArray.empty er) (he : er ≠ 0) : Calls Try.prog 29 #[.pointer (some ⟨b, 0, none⟩)] w fun e w' => e = .returned (.int .i64 0) ∧ InAt w' b ByteArray.empty er ∧ But b w w' := by
  have e : pNum ByteArray.empty er 18446744073709551615 = (0, ByteArray.empty, er) := by
    show (if (1 : Nat) ≠ 0 then (0, ByteArray.empty, eOr er 1) else _) = _
    rw [if_pos (by decide), eOr_ne _ he]
  have := inInt_any b ByteArray.empty er w h
  rw [e, show zag (0, ByteArray.empty, er).1 = 0 by simp [zag]] at this
  exact this
theorem pBytes_err (er : Nat) (he : er ≠ 0) (n : Int) : pBytes ByteArray.empty er n = (ByteArray.empty, ByteArray.empty, er) := by
  unfold pBytes
  split
  · rfl
  · rw [if_pos (by show (0 : Int) < n; omega), eOr_ne _ he]
theorem bytes_err (b er : Nat) (w : World) (h : InAt w b ByteArray.empty er) (he : er ≠ 0) (n : Int) : Calls Try.prog 37 #[.pointer (some ⟨b, 0, none⟩), .int .i64 n] w fun e w' => e = .returned (.string ByteArray.empty) ∧ InAt w' b ByteArray.empty er ∧ But b w w' := by
  have := bytes_any b ByteArray.empty er n w h
  rw [pBytes_err er he] at this
  exact this
theorem str_err (b er : Nat) (w : World) (h : InAt w b ByteArray.empty er) (he : er ≠ 0) (n : Int) (h0 : -9223372036854775808 ≤ n) (h1 : n ≤ 9223372036854775807) : Calls Try.prog 31 #[.pointer (some ⟨b, 0, none⟩), .int .i64 n] w fun e w' => e = .returned (.string ByteArray.empty) ∧ InAt w' b ByteArray.empty er ∧ But b w w' := by
  have e : pStr ByteArray.empty er n.toNat = (ByteArray.empty, ByteArray.empty, er) := by
    have e : pNum ByteArray.empty er n.toNat = (0, ByteArray.empty, er) := by
      show (if (1 : Nat) ≠ 0 then (0, ByteArray.empty, eOr er 1) else _) = _
      rw [if_pos (by decide), eOr_ne _ he]
    unfold pStr
    rw [e]
    exact pBytes_err er he _
  have := inStr_any b ByteArray.empty er n w h h0 h1
  rw [e] at this
  exact this
theorem word_err (b er : Nat) (w : World) (h : InAt w b ByteArray.empty er) (he : er ≠ 0) : Calls Try.prog 30 #[.pointer (some ⟨b, 0, none⟩)] w fun e w' => e = .returned (.int .u32 0) ∧ InAt w' b ByteArray.empty er ∧ But b w w' := by
  have := inWord_any b ByteArray.empty er w h
  rw [pBytes_err er he] at this
  exact this
theorem long_err (b er : Nat) (w : World) (h : InAt w b ByteArray.empty er) (he : er ≠ 0) : Calls Try.prog 32 #[.pointer (some ⟨b, 0, none⟩)] w fun e w' => e = .returned (.int .u64 0) ∧ InAt w' b ByteArray.empty er ∧ But b w w' := by
  have := inLong_any b ByteArray.empty er w h
  rw [pBytes_err er he] at this
  exact this
theorem byte_err (b er : Nat) (w : World) (h : InAt w b ByteArray.empty er) (he : er ≠ 0) : Calls Try.prog 38 #[.pointer (some ⟨b, 0, none⟩)] w fun e w' => e = .returned (.int .u8 0) ∧ InAt w' b ByteArray.empty er ∧ But b w w' := by
  have := inByte_any b ByteArray.empty er w h
  rw [pBytes_err er he] at this
  exact this
theorem end_err (b er : Nat) (w : World) (h : InAt w b ByteArray.empty er) : Calls Try.prog 33 #[.pointer (some ⟨b, 0, none⟩)] w fun e w' => e = .returned (.int .i64 (er : Int)) ∧ InAt w' b ByteArray.empty er ∧ But b w w' := by
  have := end_any b ByteArray.empty er w h
  have e : pEnd ByteArray.empty er = er := if_neg (by decide)
  rw [e] at this
  exact this

theorem wrap_u64_nonneg (m : Int) : 0 ≤ IntKind.u64.wrap m := by
  simp [IntKind.wrap, IntKind.signed, IntKind.bits]
  exact Int.emod_nonneg _ (by decide)

set_option maxRecDepth 10000 in
set_option maxHeartbeats 1600000 in
theorem octetStays_any (s : ByteArray) (a : Option Addr) (len cap : Nat) (K M : Nat → Int) (w : World) (hs : s.size ≤ maxLen) (hlen : len ≤ maxLen) (ht : TakesAt w a len K M) :
    Calls Try.prog 7 #[.string s, .slice a len cap] w fun e w' => e = .returned (.bool true) ∧ Below w.heap.size w w' := by
  have hlen2 : len ≤ 9223372036854775807 := Nat.le_trans hlen (by decide)
  have Ht := hid ht
  clear ht hlen
  go_enter Try.func7, Try.ntmps7
  go_wp2_with fail
  refine (cut_any s 40 _ hs).mono ?_
  rintro e w1 ⟨rfl, rfl⟩
  have hs2 : (s.extract 0 40).size ≤ 40 := by rw [extract_size]; omega
  generalize s.extract 0 40 = t at *
  go_wp2_with fail
  refine (of_any t _ (by unfold maxLen; omega)).mono ?_
  rintro e w7 ⟨rfl, hi7, hk7⟩
  generalize hb : w1.heap.size = b at *
  have hbk : w1.heap.size ≤ b := Nat.le_of_eq hb
  have HK : Hid (Reg.Keeps w1 w7) := hk7
  clear hb hk7
  go_wp2_with fail
  refine (awake1_any _).mono ?_
  rintro e w8 ⟨rfl, hk8⟩
  have hi8 := hi7.keeps hk8
  have HK8 : Hid (Below w1.heap.size w1 w8) := Reg.Keeps.trans HK.out hk8
  clear hi7 hk8 HK
  go_wp2_with fail
  go_loopw [] (fun wr => ∃ (r : ByteArray) (er : Nat), InAt wr b r er ∧ (er ≠ 0 → r = ByteArray.empty) ∧ Below w1.heap.size w1 wr) (fun wr => leftIn wr b)
  case atStart => exact ⟨t, 0, hi8, fun h => absurd rfl h, HK8.out⟩
  case round =>
    obtain ⟨r, er, hi, hre, hbl⟩ := hrel
    have Hre := hid hre
    have Hbl := hid hbl
    clear hre hbl HK8 hi8
    go_wp2_with fail
    refine (err_any b r er _ hi).mono ?_
    rintro e w9 ⟨rfl, rfl⟩
    by_cases h0 : er = 0
    · subst h0
      have hpe := pNum_ends r 7
      have hc := inNum_any b r 0 7 w9 hi
      generalize pNum r 0 7 = p at *
      have Hpe := hid hpe
      clear hpe
      go_wp2_with fail
      refine hc.mono ?_
      rintro e w10 ⟨rfl, hi10, hb10⟩
      go_wp2
      go_roundw
      case rel =>
        refine ⟨p.2.1, p.2.2, hi10, fun h => ?_, Hbl.out.trans (hb10.below hbk Hbl.out.size)⟩
        rcases Hpe.out with h1 | h1
        · exact h1.2
        · exact absurd h1.1 h
      case measure =>
        rw [leftIn_at hi10, leftIn_at hi]
        rcases Hpe.out with h1 | h1
        · rw [if_neg h1.1, h1.2]
          show 0 + 0 < _
          simp
        · rw [if_pos h1.1]
          simp
          exact h1.2
    · have h0b : ((er : Int) == 0) = false := by simp; omega
      have h0c : ((er : Int) != 0) = true := by simp; omega
      have hr := Hre.out h0
      subst hr
      clear Hre
      go_wp2_with fail
      refine (err_any b _ er _ hi).mono ?_
      rintro e w10 ⟨rfl, rfl⟩
      go_wp2_with fail
      go_loopw [7, 8] (fun c _ wr => ∃ k : Nat, k ≤ len ∧ k ≤ 10 ∧ c = .int .i64 (k : Int) ∧ InAt wr b ByteArray.empty er ∧ Below w1.heap.size w1 wr) (fun c _ _ => 10 - (intOf c).toNat)
      case atStart => exact ⟨0, by omega, by omega, rfl, hi, Hbl.out⟩
      case round =>
        obtain ⟨k, hk, hk10, rfl, hi2, hbl⟩ := hrel
        have Hb2 := hid hbl
        have Htk := hid (Ht.out.below hbl)
        clear hbl Hbl Ht hi
        by_cases hlt : k < len ∧ k < 10
        · obtain ⟨hl1, hl2⟩ := hlt
          obtain ⟨ab, off, rfl, hab, hc0, hc1, _, hM⟩ := Htk.out k hl1
          generalize M k = m at *
          have i1 : (k : Int) < (len : Int) := by omega
          have i2 : (k : Int) < 10 := by omega
          obtain ⟨most, hmost⟩ : ∃ most : Nat, IntKind.u64.wrap m = (most : Int) := ⟨(IntKind.u64.wrap m).toNat, (Int.toNat_of_nonneg (wrap_u64_nonneg m)).symm⟩
          clear Htk hc0 hab
          go_wp2_with fail
          refine (num_err b er wr hi2 h0 most).mono ?_
          rintro e x1 ⟨rfl, hx1, hbx1⟩
          have HBx1 : Hid (Below w1.heap.size w1 x1) := Hb2.out.trans (hbx1.below hbk Hb2.out.size)
          clear hbx1 hi2
          go_wp2_with fail
          refine (int_err b er x1 hx1 h0).mono ?_
          rintro e x2 ⟨rfl, hx2, hbx2⟩
          have HBx2 : Hid (Below w1.heap.size w1 x2) := HBx1.out.trans (hbx2.below hbk HBx1.out.size)
          clear hbx2 hx1
          go_wp2_with fail
          refine (str_err b er x2 hx2 h0 m hM.1 hM.2).mono ?_
          rintro e x3 ⟨rfl, hx3, hbx3⟩
          have HBx3 : Hid (Below w1.heap.size w1 x3) := HBx2.out.trans (hbx3.below hbk HBx2.out.size)
          clear hbx3 hx2
          go_wp2_with fail
          refine (bytes_err b er x3 hx3 h0 m).mono ?_
          rintro e x4 ⟨rfl, hx4, hbx4⟩
          have HBx4 : Hid (Below w1.heap.size w1 x4) := HBx3.out.trans (hbx4.below hbk HBx3.out.size)
          clear hbx4 hx3
          go_wp2_with fail
          refine (byte_err b er x4 hx4 h0).mono ?_
          rintro e x5 ⟨rfl, hx5, hbx5⟩
          have HBx5 : Hid (Below w1.heap.size w1 x5) := HBx4.out.trans (hbx5.below hbk HBx4.out.size)
          clear hbx5 hx4
          go_wp2_with fail
          refine (word_err b er x5 hx5 h0).mono ?_
          rintro e x6 ⟨rfl, hx6, hbx6⟩
          have HBx6 : Hid (Below w1.heap.size w1 x6) := HBx5.out.trans (hbx6.below hbk HBx5.out.size)
          clear hbx6 hx5
          go_wp2_with fail
          refine (long_err b er x6 hx6 h0).mono ?_
          rintro e x7 ⟨rfl, hx7, hbx7⟩
          have HBx7 : Hid (Below w1.heap.size w1 x7) := HBx6.out.trans (hbx7.below hbk HBx6.out.size)
          clear hbx7 hx6
          go_wp2_with fail
          refine (rest_any b _ er x7 hx7).mono ?_
          rintro e x8 ⟨rfl, hx8, hbx8⟩
          have HBx8 : Hid (Below w1.heap.size w1 x8) := HBx7.out.trans (hbx8.below hbk HBx7.out.size)
          clear hbx8 hx7
          go_wp2_with fail
          refine (left_any b _ er x8 hx8).mono ?_
          rintro e x9 ⟨rfl, rfl⟩
          go_wp2_with fail
          refine (end_err b er x9 hx8).mono ?_
          rintro e x10 ⟨rfl, hx10, hbx10⟩
          have HBx10 : Hid (Below w1.heap.size w1 x10) := HBx8.out.trans (hbx10.below hbk HBx8.out.size)
          clear hbx10 hx8
          go_wp2_with fail
          refine (err_any b _ er x10 hx10).mono ?_
          rintro e x11 ⟨rfl, rfl⟩
          go_wp2
          go_roundw
          case rel => exact ⟨k + 1, by omega, by omega, by go_num, hx10, HBx10.out⟩
          case measure => simp [intOf]; omega
        · by_cases hl1 : k < len
          · have i1 : (k : Int) < (len : Int) := by omega
            have i2 : ¬ (k : Int) < 10 := by omega
            go_wp2
            go_ret
            exact ⟨rfl, Hb2.out⟩
          · have i1 : ¬ (k : Int) < (len : Int) := by omega
            go_wp2
            go_ret
            exact ⟨rfl, Hb2.out⟩
end Go.Proofs.Ytedhecbcpcmlmaa
