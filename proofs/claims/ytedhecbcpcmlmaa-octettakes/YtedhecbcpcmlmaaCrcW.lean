import Derived.Test.YtedhecbcpcmlmaaRows
import Derived.Test.YtedhecbcpcmlmaaCrcMath
import Derived.WalkKit
import Derived.WalkSpells
import Derived.WalkLawsBesides
import Derived.Deep.QuietTactic
import Derived.BigQuiet
namespace Go.Proofs.Ytedhecbcpcmlmaa
open Go.RowKit

theorem ret_int {k : IntKind} {a b : Int} (h : a = b) : Ending.returned (.int k a) = .returned (.int k b) := by rw [h]
theorem val_int {k : IntKind} {a b : Int} (h : a = b) : Value.int k a = .int k b := by rw [h]

theorem odd_of {c : Nat} (hc : c < 4294967296) (h : (bits BinOp.and IntKind.u32 (c : Int) 1 == 1) = true) : c % 2 = 1 := by
  have e : bits BinOp.and IntKind.u32 (c : Int) ((1 : Nat) : Int) = ((c &&& 1 : Nat) : Int) := u32_and_nat c 1 hc (by decide)
  rw [show ((1 : Nat) : Int) = 1 from rfl] at e
  rw [e, nat_mask1] at h
  simp at h; omega
theorem even_of {c : Nat} (hc : c < 4294967296) (h : (bits BinOp.and IntKind.u32 (c : Int) 1 == 1) = false) : ¬ c % 2 = 1 := by
  have e : bits BinOp.and IntKind.u32 (c : Int) ((1 : Nat) : Int) = ((c &&& 1 : Nat) : Int) := u32_and_nat c 1 hc (by decide)
  rw [show ((1 : Nat) : Int) = 1 from rfl] at e
  rw [e, nat_mask1] at h
  simp at h; omega

set_option maxHeartbeats 400000 in
theorem moveByte_any (c : Nat) (w : World) (h1 : c < 4294967296) :
    Calls Try.prog 59 #[.int .u32 (c : Int)] w fun e w' => e = .returned (.int .u32 (Crc.tab c : Nat)) ∧ w' = w := by
  go_enter Try.func59, Try.ntmps59
  go_wp2
  go_loop [0, 4] (fun t i => ∃ k : Nat, k ≤ 8 ∧ i = .int .i64 k ∧ t = .int .u32 (Crc.moves k c : Nat)) (fun _ i => 8 - (intOf i).toNat)
  case atStart => exact ⟨0, by omega, rfl, rfl⟩
  case round =>
    obtain ⟨k, hk, rfl, rfl⟩ := hrel
    have hm := Crc.moves_lt k h1
    have hs : Hid (Crc.moves (k + 1) c = Crc.mstep (Crc.moves k c)) := rfl
    generalize hgm : Crc.moves k c = m at *
    have Hg : Hid (Crc.moves k c = m) := hgm
    clear hgm
    by_cases hlt : k < 8
    · go_wp2
      · go_round
        case rel =>
          refine ⟨k + 1, by omega, by go_num, val_int ?_⟩
          have h2 := odd_of hm ‹_›
          rw [hs.out]; unfold Crc.mstep; rw [if_pos h2]
          have := u32_xor_nat (m / 2) 3988292384 (by omega) (by decide)
          rw [← this]; rfl
        case measure => simp [intOf]; omega
      · go_round
        case rel =>
          refine ⟨k + 1, by omega, by go_num, val_int ?_⟩
          have h2 := even_of hm ‹_›
          rw [hs.out]; unfold Crc.mstep; rw [if_neg h2]; rfl
        case measure => simp [intOf]; omega
    · have hk8 : k = 8 := by omega
      subst hk8
      go_wp2
      go_ret
      exact ⟨ret_int (by rw [← Hg.out]; rfl), rfl⟩

def zeros : Array Value := Array.replicate 256 (.int .u32 0)
theorem zero88 (w : World) : Sem.run Try.prog (zeroValue 88) w = .ok (.agg zeros) w := by kernel_rfl
theorem zeros_get (i : Nat) (h : i < 256) : zeros[i]? = some (.int .u32 0) := by simp [zeros, h]

set_option maxRecDepth 10000 in
set_option maxHeartbeats 400000 in
theorem make_any (w : World) :
    Calls Try.prog 40 #[] w fun e w' => ∃ b : Nat, e = .returned (.pointer (some ⟨b, 0, none⟩)) ∧ w.heap.size ≤ b ∧ b < w'.heap.size ∧ Below w.heap.size w w' ∧ ∀ i : Nat, i < 256 → w'.cell? ⟨b, i, none⟩ = some (.int .u32 (Crc.tab i : Nat)) := by
  have hz := zero88
  go_enter Try.func40, Try.ntmps40
  go_wp2
  clear hz
  go_loopw [3] (fun i wr => ∃ k : Nat, k ≤ 256 ∧ i = .int .i64 k ∧ Below w.heap.size w wr ∧ wr.heap.size = w.heap.size + 1 ∧ (∀ j : Nat, j < 256 → wr.frozen? ⟨w.heap.size, j, none⟩ = false) ∧ (∀ j : Nat, j < k → wr.cell? ⟨w.heap.size, j, none⟩ = some (.int .u32 (Crc.tab j : Nat))) ∧ (∀ j : Nat, k ≤ j → j < 256 → wr.cell? ⟨w.heap.size, j, none⟩ = some (.int .u32 0))) (fun i _ => 256 - (intOf i).toNat)
  case atStart =>
    refine ⟨0, by omega, rfl, (Below.refl _ _).alloc (Nat.le_refl _) _, by simp, fun j _ => World.frozen?_alloc_new _ _ _ _, fun j hj => by omega, ?_⟩
    intro j _ hj
    rw [World.cell?_alloc_new]; exact zeros_get j hj
  case round =>
    obtain ⟨k, hk, rfl, hb, hsz, hfz, hlo, hhi⟩ := hrel
    have Hf : Hid (∀ j : Nat, j < 256 → wr.frozen? ⟨w.heap.size, j, none⟩ = false) := hfz
    have Hl : Hid (∀ j : Nat, j < k → wr.cell? ⟨w.heap.size, j, none⟩ = some (.int .u32 (Crc.tab j : Nat))) := hlo
    have Hh : Hid (∀ j : Nat, k ≤ j → j < 256 → wr.cell? ⟨w.heap.size, j, none⟩ = some (.int .u32 0)) := hhi
    have Hs : Hid (wr.heap.size = w.heap.size + 1) := hsz
    clear hfz hlo hhi hsz
    by_cases hlt : k < 256
    · have hc := Hh.out k (Nat.le_refl _) hlt
      have hf := Hf.out k hlt
      go_wp2_with (go_at_call 59; refine (moveByte_any k _ (by omega)).mono ?_; rintro e w' ⟨rfl, rfl⟩)
      go_round
      case rel =>
        refine ⟨k + 1, by omega, by go_num, hb.setCell (Nat.le_refl _) _, by rw [World.size_setCell]; exact Hs.out, fun j hj => by rw [World.frozen?_setCell]; exact Hf.out j hj, ?_, ?_⟩
        · intro j hj
          by_cases e : j = k
          · subst e; exact World.cell?_setCell_same _ _ _ hc
          · rw [World.cell?_setCell_other _ _ _ _ (by intro h; injection h with _ h2 _; exact e h2.symm)]; exact Hl.out j (by omega)
        · intro j hj hj2
          rw [World.cell?_setCell_other _ _ _ _ (by intro h; injection h with _ h2 _; omega)]; exact Hh.out j (by omega) hj2
      case measure => simp [intOf]; omega
    · have hk2 : k = 256 := by omega
      subst hk2
      go_wp2
      go_ret
      refine ⟨_, rfl, Nat.le_refl _, by rw [Hs.out]; omega, hb, Hl.out⟩

theorem nat_not32 (c : Nat) (h : c < 4294967296) : 4294967295 ^^^ c = 4294967295 - c := by
  have e := BitVec.toNat_not (x := BitVec.ofNat 32 c)
  have e2 : (~~~ BitVec.ofNat 32 c) = BitVec.allOnes 32 ^^^ BitVec.ofNat 32 c := by rw [BitVec.allOnes_xor]
  rw [e2, BitVec.toNat_xor, BitVec.toNat_allOnes, BitVec.toNat_ofNat, Nat.mod_eq_of_lt (by omega)] at e
  simpa using e
theorem not_u32 {c : Nat} (h : c < 4294967296) : bits BinOp.xor IntKind.u32 IntKind.u32.max (c : Int) = ((4294967295 - c : Nat) : Int) := by
  have e := u32_xor_nat 4294967295 c (by decide) h
  rw [nat_not32 c h] at e
  exact e
theorem xor_u8 {m : Nat} (x : UInt8) : bits BinOp.xor IntKind.u8 (IntKind.u8.wrap (m : Int)) (x.toNat : Int) = (((m % 256) ^^^ x.toNat : Nat) : Int) := by
  rw [IntKind.wrap_u8]
  have e := u8_xor_nat (m % 256) x.toNat (by omega) x.toNat_lt
  rw [← e]; rfl
theorem take_snoc (s : ByteArray) (k : Nat) (h : k < s.size) : s.data.toList.take (k + 1) = s.data.toList.take k ++ [s[k]] := by
  rw [List.take_succ_eq_append_getElem (by simpa using h)]; rfl

/-- A table lies in block b. -/
def TabAt (w : World) (b : Nat) : Prop := ∀ i : Nat, i < 256 → w.cell? ⟨b, i, none⟩ = some (.int .u32 (Crc.tab i : Nat))

set_option maxRecDepth 10000 in
set_option maxHeartbeats 400000 in
theorem more_any (b c : Nat) (s : ByteArray) (w : World) (hc : c < 4294967296) (hs : s.size ≤ maxLen) (ht : TabAt w b) :
    Calls Try.prog 46 #[.pointer (some ⟨b, 0, none⟩), .int .u32 (c : Int), .string s] w fun e w' => e = .returned (.int .u32 (Crc.more c s.data.toList : Nat)) ∧ ∃ n, w' = w.drewN n := by
  unfold maxLen at hs
  go_enter Try.func46, Try.ntmps46
  go_wp2
  go_loopw [1, 12] (fun t i wr => ∃ k n : Nat, k ≤ s.size ∧ i = .int .i64 k ∧ t = .int .u32 (Crc.run (4294967295 - c) (s.data.toList.take k) : Nat) ∧ wr = w.drewN n) (fun _ i _ => s.size - (intOf i).toNat)
  case atStart => exact ⟨0, 0, by omega, rfl, val_int (by rw [not_u32 hc]; rfl), rfl⟩
  case round =>
    obtain ⟨k, n, hk, rfl, rfl, rfl⟩ := hrel
    have hr := Crc.run_lt (s.data.toList.take k) (r := 4294967295 - c) (by omega)
    by_cases hlt : k < s.size
    · have hts := take_snoc s k hlt
      have Hn : Hid (Crc.run (4294967295 - c) (s.data.toList.take (k + 1)) = Crc.upd (Crc.run (4294967295 - c) (s.data.toList.take k)) s[k].toNat) := by
        rw [hts, Crc.run_append]; rfl
      clear hts
      generalize hgm : Crc.run (4294967295 - c) (s.data.toList.take k) = m at *
      clear hgm
      have hx := xor_u8 (m := m) s[k]
      have hj : (m % 256) ^^^ s[k].toNat < 256 := Crc.xor_byte_lt (by omega) s[k].toNat_lt
      have Hu : Hid (Crc.upd m s[k].toNat = Crc.tab ((m % 256) ^^^ s[k].toNat) ^^^ (m / 256)) := rfl
      generalize (m % 256) ^^^ s[k].toNat = j at *
      have hji : (j : Int) < 256 := by omega
      have hcl := ht j hj
      have htl := Crc.tab_lt (b := j) (by omega)
      generalize Crc.tab j = tj at *
      clear ht
      go_wp2
      go_quiet (fail)
      go_wp2
      go_round
      case rel =>
        refine ⟨k + 1, _, by omega, by go_num, val_int ?_, rfl⟩
        have e := u32_xor_nat tj (m / 256) htl (by omega)
        rw [Hn.out, Hu.out, ← e]; rfl
      case measure => simp [intOf]; omega
    · have hk2 : k = s.size := by omega
      subst hk2
      have hta : s.data.toList.take s.size = s.data.toList := List.take_of_length_le (by simp)
      rw [hta] at hr ⊢
      go_wp2
      go_ret
      exact ⟨ret_int (by rw [not_u32 hr]; rfl), _, rfl⟩
end Go.Proofs.Ytedhecbcpcmlmaa
