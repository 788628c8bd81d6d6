/-
  OctetTakes, walked.
-/
import Derived.Test.YtedhecbcpcmlmaaTkTakes
namespace Go.Proofs.Ytedhecbcpcmlmaa
open Go.RowKit

theorem tk_round {b z n er er2 : Nat} {r s2 : ByteArray} {w1 wr w4 : World} (hi : InAt w4 b s2 er2) (hz : InAt w4 z r er) (hinv : er2 ≠ 0 → s2 = ByteArray.empty) (hb : But b wr.drew w4) (hbl : Below n w1 wr) (hbz : b < z ∧ n ≤ z) (hnb : n ≤ b) (hn : n ≤ wr.heap.size) :
    ∃ (r' : ByteArray) (er' : Nat), InAt ((w4.setCell ⟨z, 0, none⟩ (.string s2)).setCell ⟨z, 1, none⟩ (.int .i64 (er2 : Int))) b r' er' ∧ InAt ((w4.setCell ⟨z, 0, none⟩ (.string s2)).setCell ⟨z, 1, none⟩ (.int .i64 (er2 : Int))) z r' er' ∧
      (er' ≠ 0 → r' = ByteArray.empty) ∧ Below n w1 ((w4.setCell ⟨z, 0, none⟩ (.string s2)).setCell ⟨z, 1, none⟩ (.int .i64 (er2 : Int))) := by
  have hs := hz.set s2 er2 hi.sz
  have h4 : But b wr w4 := (But.keeps ((Reg.Keeps.refl wr).drewN 1)).trans hb
  exact ⟨s2, er2, hi.but hs.2 (by omega), hs.1, hinv, (hbl.trans (h4.below hnb hn)).trans (hs.2.below hbz.2 (Nat.le_trans hn h4.size))⟩

set_option maxRecDepth 10000 in
set_option maxHeartbeats 3200000 in
theorem octetTakes_any (s : ByteArray) (a : Option Addr) (len cap : Nat) (K M : Nat → Int) (w : World) (hs : s.size ≤ maxLen) (hlen : len ≤ maxLen) (ht : TakesAt w a len K M) :
    Calls Try.prog 3 #[.string s, .slice a len cap] w fun e w' => e = .returned (.bool true) ∧ Below w.heap.size w w' := by
  have hlen2 : len ≤ 9223372036854775807 := Nat.le_trans hlen (by decide)
  have Ht := hid ht
  clear ht hlen
  go_enter Try.func3, Try.ntmps3
  go_wp2_with fail
  refine (cut_any s 150 _ hs).mono ?_
  rintro e w1 ⟨rfl, rfl⟩
  have hs2 : (s.extract 0 150).size ≤ 150 := by rw [extract_size]; omega
  generalize s.extract 0 150 = t at *
  have hsz : t.size ≤ maxLen := by unfold maxLen; omega
  go_wp2_with fail
  refine (of_any t _ hsz).mono ?_
  rintro e w7 ⟨rfl, hi7, hk7⟩
  generalize hb : w1.heap.size = b at *
  have hbk : w1.heap.size ≤ b := Nat.le_of_eq hb
  have HK : Hid (Reg.Keeps w1 w7) := hk7
  clear hb hk7
  go_wp2_with fail
  refine (awake1_any _).mono ?_
  rintro e w8 ⟨rfl, hk8⟩
  have hi8 := hid (hi7.keeps hk8)
  have HK8 : Hid (Below w1.heap.size w1 w8) := Reg.Keeps.trans HK.out hk8
  clear hi7 hk8 HK
  have hx := inAt_new w8 t 0 hsz
  obtain ⟨z, hz⟩ : ∃ z, w8.heap.size = z := ⟨_, rfl⟩
  obtain ⟨w9, hw9⟩ : ∃ w9, w8.alloc (.cells #[.string t, .int .i64 0] 28) = w9 := ⟨_, rfl⟩
  have hk9 : Reg.Keeps w8 w9 := by rw [← hw9]; exact (Reg.Keeps.refl _).alloc _
  have hx9 : InAt w9 z t 0 := by rw [← hw9, ← hz]; exact hx
  have HX9 := hid hx9
  have HI9 := hid (hi8.out.keeps hk9)
  have HBZ := hid (show b < z ∧ w1.heap.size ≤ z from by have := hi8.out.lt; have := HK8.out.size; omega)
  have HK9 := hid (show Below w1.heap.size w1 w9 from HK8.out.trans (Below.mono hk9 HK8.out.size))
  have HW9 := hid hw9
  have HZ9 := hid hz
  clear hx hk9 hx9 hw9 hz
  go_upto_region 6 with fail
  try rw [HZ9.out]
  try rw [HW9.out]
  clear HW9 HZ9
  go_wp2_with fail
  go_loopw [7, 8] (fun o c wr => ∃ (k : Nat) (r : ByteArray) (er : Nat), o = .bool true ∧ c = .int .i64 (k : Int) ∧ k ≤ len ∧ k ≤ 15 ∧ InAt wr b r er ∧ InAt wr z r er ∧ (er ≠ 0 → r = ByteArray.empty) ∧ Below w1.heap.size w1 wr) (fun _ c _ => 15 - (intOf c).toNat)
  case atStart => exact ⟨0, t, 0, rfl, rfl, by omega, by omega, HI9.out, HX9.out, fun h => absurd rfl h, HK9.out⟩
  case round =>
    obtain ⟨k, r, er, rfl, rfl, hk, hk15, hi, hz, hinv, hbl⟩ := hrel
    have HI := hid hi
    have HZ := hid hz
    have HINV := hid hinv
    have HBL := hid hbl
    have d0 := hz.c0
    have d1 := hz.c1
    have g0 := hz.f0
    have g1 := hz.f1
    clear hi hz hinv hbl
    by_cases hlt : k < len ∧ k < 15
    · obtain ⟨hl1, hl2⟩ := hlt
      obtain ⟨ab, off, rfl, hab, hc0, hc1, _, hM⟩ := (Ht.out.below HBL.out) k hl1
      generalize M k = m at *
      generalize K k = kd at *
      have HM := hid hM
      have i1 : (k : Int) < (len : Int) := by omega
      have i2 : (k : Int) < 15 := by omega
      clear hM hab
      go_upto_block 1 with fail
      go_cut [7] from 21 to 43 (fun s7 wx => s7 = .bool true ∧ ∃ (r' : ByteArray) (er' : Nat), InAt wx b r' er' ∧ InAt wx z r' er' ∧ (er' ≠ 0 → r' = ByteArray.empty) ∧ Below w1.heap.size w1 wx)
      case first =>
        go_upto_region 9 with fail
        go_region_with (go_at_call 17; refine (takes_any b r er kd m _ HI.out.drew HINV.out HM.out).mono ?_; rintro e w4 ⟨s2, er2, rfl, hi4, hinv4, hb4⟩; have HI4 := hid hi4; have HINV4 := hid hinv4; have HB4 := hid hb4; have HZ4 := hid (HZ.out.drew.but hb4 (by have := HBZ.out; omega)); have g0b := HZ4.out.f0; have g1b := HZ4.out.f1; have d0b := HZ4.out.c0; have d1b := HZ4.out.c1; clear hi4 hinv4 hb4)
        all_goals go_wp2_with fail
        all_goals go_meet
        all_goals exact ⟨by simp, tk_round HI4.out HZ4.out HINV4.out HB4.out HBL.out HBZ.out hbk HBL.out.size⟩
      case rest =>
        obtain ⟨rfl, r2, er2, hi2, hz2, hinv2, hbl2⟩ := hcut
        have HR := hid (And.intro hi2 (And.intro hz2 (And.intro hinv2 hbl2)))
        clear hi2 hz2 hinv2 hbl2
        go_wp2_with fail
        go_roundw
        case rel => exact ⟨k + 1, r2, er2, rfl, by go_num, by omega, by omega, HR.out⟩
        case measure => simp [intOf]; omega
    · by_cases hl1 : k < len
      · have i1 : (k : Int) < (len : Int) := by omega
        have i2 : ¬ (k : Int) < 15 := by omega
        go_wp2
        go_ret
        exact ⟨rfl, HBL.out⟩
      · have i1 : ¬ (k : Int) < (len : Int) := by omega
        go_wp2
        go_ret
        exact ⟨rfl, HBL.out⟩
end Go.Proofs.Ytedhecbcpcmlmaa
