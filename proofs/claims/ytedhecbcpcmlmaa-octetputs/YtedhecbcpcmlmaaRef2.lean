/-
  Contracts of the reference of crc: bits, the long division, the word, sealed.
-/
import Derived.Test.YtedhecbcpcmlmaaPuts
import Derived.Test.YtedhecbcpcmlmaaCrcPoly
namespace Go.Proofs.Ytedhecbcpcmlmaa
open Go.RowKit

theorem plainI : Sl.Plain1 Try.prog 68 3 := ⟨(Try.prog.info? 3).getD default, .int .i64 0, Try.underlying68, by kernel_rfl, by kernel_rfl, by kernel_rfl, by decide +kernel, rfl⟩

/-- The first N bits of a number, as cells. -/
def bitC (N B : Nat) : List Value := (List.range N).map fun j => Value.int .i64 ((B / 2 ^ j % 2 : Nat) : Int)
theorem bitC_length (N B : Nat) : (bitC N B).length = N := by simp [bitC]
theorem bitC_at (N B j : Nat) (h : j < N) : (bitC N B)[j]? = some (.int .i64 ((B / 2 ^ j % 2 : Nat) : Int)) := by simp [bitC, h]
theorem bitC_snoc (N B b : Nat) (hB : B < 2 ^ N) (hb : b ≤ 1) : bitC N B ++ [.int .i64 (b : Int)] = bitC (N + 1) (B + b * 2 ^ N) := by
  unfold bitC
  rw [List.range_succ, List.map_append]
  congr 1
  · apply List.map_congr_left
    intro j hj
    have hj' : j < N := by simpa using hj
    have e : (B + b * 2 ^ N) / 2 ^ j = B / 2 ^ j + b * 2 ^ (N - j) := by
      have : 2 ^ N = 2 ^ j * 2 ^ (N - j) := by rw [← Nat.pow_add]; congr 1; omega
      rw [this, Nat.mul_comm b, Nat.mul_assoc, Nat.add_mul_div_left _ _ (Nat.two_pow_pos j), Nat.mul_comm b]
    have e2 : b * 2 ^ (N - j) % 2 = 0 := by
      have : 2 ^ (N - j) = 2 * 2 ^ (N - j - 1) := by rw [← Nat.pow_succ']; congr 1; omega
      rw [this, Nat.mul_comm, Nat.mul_assoc]; omega
    rw [e]
    congr 2
    omega
  · have e : (B + b * 2 ^ N) / 2 ^ N = b := by
      rw [Nat.add_mul_div_right _ _ (Nat.two_pow_pos N), Nat.div_eq_of_lt hB]; omega
    have e2 : b % 2 = b := by omega
    simp only [List.map_cons, List.map_nil]
    rw [e, e2]

theorem bit_next (m c q k : Nat) : m + c % 2 ^ q * 2 ^ (8 * k) + c / 2 ^ q % 2 * 2 ^ (8 * k + q) = m + c % 2 ^ (q + 1) * 2 ^ (8 * k) := by
  rw [Nat.mod_pow_succ, Nat.add_mul, Nat.pow_add, Nat.add_assoc]
  congr 2
  rw [Nat.mul_comm (2 ^ q), Nat.mul_assoc, Nat.mul_comm (2 ^ q)]
theorem bit_lt (m c q k : Nat) (hm : m < 2 ^ (8 * k)) : m + c % 2 ^ q * 2 ^ (8 * k) < 2 ^ (8 * k + q) := by
  have h1 : c % 2 ^ q + 1 ≤ 2 ^ q := Nat.mod_lt _ (Nat.two_pow_pos q)
  have h2 : (c % 2 ^ q + 1) * 2 ^ (8 * k) ≤ 2 ^ q * 2 ^ (8 * k) := Nat.mul_le_mul h1 (Nat.le_refl _)
  rw [Nat.add_mul, Nat.one_mul] at h2
  rw [Nat.pow_add, Nat.mul_comm (2 ^ (8 * k))]
  omega

set_option maxRecDepth 10000 in
set_option maxHeartbeats 800000 in
theorem bits_any (s : ByteArray) (w : World) (hs : s.size ≤ 1300) :
    Calls Try.prog 60 #[.string s] w fun e w' => ∃ v', e = .returned v' ∧ Sl.Own w' v' (bitC (8 * s.size) (Oct.leB s.data.toList)) ∧ Reg.Keeps w w' ∧ (∀ k, v'.ownBlock = some k → w.heap.size ≤ k) ∧ v' ≠ .slice none 0 0 := by
  go_enter Try.func60, Try.ntmps60
  go_wp2
  go_loopw [3, 4] (fun b i wr => ∃ (k : Nat), k ≤ s.size ∧ i = .int .i64 (k : Int) ∧ Sl.Own wr b (bitC (8 * k) (Oct.leB (s.data.toList.take k))) ∧ Sl.Frame (w.alloc (Obj.cells #[] 3)) wr (.slice (some ⟨w.heap.size, 0, none⟩) 0 0) b ∧ b ≠ .slice none 0 0) (fun _ i _ => s.size - (intOf i).toNat)
  case atStart => exact ⟨0, by omega, rfl, own_empty _ _, Sl.Frame.refl _ _, by simp⟩
  case round =>
    obtain ⟨k, hk, rfl, ho, hfr, hnn⟩ := hrel
    have Hnn := hid hnn
    clear hnn
    by_cases hlt : k < s.size
    · have hl : (s.data.toList.take k).length = k := by simp; omega
      have hb := Oct.leB_lt (s.data.toList.take k)
      rw [hl, show (256 : Nat) ^ k = 2 ^ (8 * k) by rw [show (256 : Nat) = 2 ^ 8 from rfl, ← Nat.pow_mul]] at hb
      have hsn := Oct.leB_snoc (s.data.toList.take k) s[k]
      rw [hl, ← take_snoc s k hlt, show (256 : Nat) ^ k = 2 ^ (8 * k) by rw [show (256 : Nat) = 2 ^ 8 from rfl, ← Nat.pow_mul]] at hsn
      have Hs := hid hsn
      clear hsn hl
      generalize Oct.leB (s.data.toList.take k) = m at *
      have hc : s[k].toNat < 256 := s[k].toNat_lt
      go_wp2
      go_loopw [3, 5, 6] (fun b cv j wr => ∃ (q : Nat), q ≤ 8 ∧ j = .int .i64 (q : Int) ∧ cv = .int .i64 ((s[k].toNat / 2 ^ q : Nat) : Int) ∧ Sl.Own wr b (bitC (8 * k + q) (m + s[k].toNat % 2 ^ q * 2 ^ (8 * k))) ∧ Sl.Frame (w.alloc (Obj.cells #[] 3)) wr (.slice (some ⟨w.heap.size, 0, none⟩) 0 0) b ∧ b ≠ .slice none 0 0) (fun _ _ j _ => 8 - (intOf j).toNat)
      case atStart => exact ⟨0, by omega, rfl, by simp, by simpa [Nat.mod_one] using ho, hfr, Hnn.out⟩
      case round =>
        obtain ⟨q, hq, rfl, rfl, ho2, hfr2, hnn2⟩ := hrel
        have Hnn2 := hid hnn2
        clear ho hfr hnn2 Hnn
        by_cases hq8 : q < 8
        · have hbl := bit_lt m s[k].toNat q k hb
          have hx : s[k].toNat / 2 ^ q < 256 := Nat.lt_of_le_of_lt (Nat.div_le_self _ _) hc
          have Hn := hid (bit_next m s[k].toNat q k)
          have Hd : Hid (s[k].toNat / 2 ^ (q + 1) = s[k].toNat / 2 ^ q / 2) := by
            show _ = _
            rw [Nat.pow_succ, Nat.div_div_eq_div_mul]
          generalize s[k].toNat / 2 ^ q = x at *
          generalize m + s[k].toNat % 2 ^ q * 2 ^ (8 * k) = B at *
          have hbl2 := bitC_length (8 * k + q) B
          go_wp2_with (at_builtin; refine Sl.wpList_append plainI _ rfl (.tmp 22) (.tmp 25) 68 rfl u3 _ rfl (ho2.alloc _) _ rfl 1 [_] (Sl.src_one _ 68 3 Try.underlying68 _ rfl 3) (.inl Nat.one_pos) ?hb ?_; (case hb => rw [hbl2]; omega); intro v' w' ho' hf' hn')
          go_roundw
          case rel =>
            refine ⟨q + 1, by omega, by go_num, val_int (by rw [Hd.out]; go_num), ?_, hfr2.trans ((Sl.Frame.alloc _ _ _).trans hf'), hn'⟩
            rw [← Hn.out, ← Nat.add_assoc, ← bitC_snoc (8 * k + q) B (x % 2) hbl (by omega)]
            exact ho'
          case measure => simp [intOf]; omega
        · have hq2 : q = 8 := by omega
          subst hq2
          have h256 : s[k].toNat % 2 ^ 8 = s[k].toNat := Nat.mod_eq_of_lt hc
          rw [h256, ← Hs.out] at ho2
          clear h256
          go_wp2
          go_roundw
          case rel => exact ⟨k + 1, by omega, by go_num, ho2, hfr2, Hnn2.out⟩
          case measure => simp [intOf]; omega
    · have hk2 : k = s.size := by omega
      subst hk2
      rw [List.take_of_length_le (by simp)] at ho
      go_wp2
      go_ret
      exact ⟨_, rfl, ho, keeps_new hfr, fun j hj => by rcases hfr.lies j hj with h | h <;> simp [Value.ownBlock] at h <;> omega, Hnn.out⟩
end Go.Proofs.Ytedhecbcpcmlmaa
