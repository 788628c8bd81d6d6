/-
  CrcBursts, walked.
-/
import Derived.Test.YtedhecbcpcmlmaaSums
import Derived.Test.YtedhecbcpcmlmaaCrcErr
import Derived.Test.YtedhecbcpcmlmaaXor
import Derived.RegionTactic
namespace Go.Proofs.Ytedhecbcpcmlmaa
open Go.RowKit

/-- One bit turned over. -/
def flipBit (l : List UInt8) (p : Nat) : List UInt8 := l.set (p / 8) (l.getD (p / 8) 0 ^^^ UInt8.ofNat (2 ^ (p % 8)))
theorem flipBit_length (l : List UInt8) (p : Nat) : (flipBit l p).length = l.length := by simp [flipBit]
theorem pow8 (p : Nat) (h : p < 8) : (UInt8.ofNat (2 ^ p)).toNat = 2 ^ p := by
  apply Oct.byte_toNat
  exact Nat.lt_of_le_of_lt (Nat.pow_le_pow_right (n := 2) (by omega) (show p ≤ 7 by omega)) (by decide)
theorem leB_flip : ∀ (l : List UInt8) (p : Nat), p < 8 * l.length → Oct.leB (flipBit l p) = Oct.leB l ^^^ 2 ^ p
  | [], p, h => by simp at h
  | c :: l, p, h => by
    by_cases h8 : p < 8
    · have e0 : p / 8 = 0 := by omega
      have e1 : p % 8 = p := by omega
      unfold flipBit
      rw [e0, e1]
      show Oct.leB ((c ^^^ UInt8.ofNat (2 ^ p)) :: l) = _
      rw [Crc.leB_cons, Crc.leB_cons, UInt8.toNat_xor, pow8 p h8, Nat.xor_assoc, Nat.xor_comm (2 ^ p), Nat.xor_assoc]
    · obtain ⟨q, rfl⟩ : ∃ q, p = q + 8 := ⟨p - 8, by omega⟩
      have e : flipBit (c :: l) (q + 8) = c :: flipBit l q := by
        unfold flipBit
        rw [show (q + 8) / 8 = q / 8 + 1 by omega, show (q + 8) % 8 = q % 8 by omega]
        simp
      rw [e, Crc.leB_cons, Crc.leB_cons, leB_flip l q (by simp at h; omega), Nat.xor_assoc]
      congr 1
      have e2 : 2 ^ (q + 8) = 2 ^ 8 * 2 ^ q := by rw [Nat.pow_add, Nat.mul_comm]
      rw [e2, Nat.mul_comm (2 ^ 8), Nat.mul_comm (2 ^ 8), Nat.mul_comm (2 ^ 8), ← Nat.shiftLeft_eq, ← Nat.shiftLeft_eq, ← Nat.shiftLeft_eq, Nat.shiftLeft_xor_distrib]

theorem Sl.Has.setByte {w : World} {g cap j : Nat} {l : List UInt8} (h : Sl.Has w g cap (Sl.cells l)) (hj : j < l.length) (u : UInt8) {x : Int} (hx : x = (u.toNat : Int)) : Sl.Has (w.setCell ⟨g, j, none⟩ (.int .u8 x)) g cap (Sl.cells (l.set j u)) := by
  subst hx
  have hc := h.holds j (.int .u8 (l[j].toNat : Int)) (by simp [Sl.cells, hj])
  refine ⟨by rw [World.size_setCell]; exact h.lt, by have := h.le; rw [Sl.cells_length] at this ⊢; simpa using this, h.max, fun i v hv => ?_, fun i hi => ?_⟩
  · by_cases e : i = j
    · subst e
      have : v = .int .u8 (u.toNat : Int) := by simpa [Sl.cells, hj] using hv.symm
      rw [this]; exact World.cell?_setCell_same _ _ _ hc
    · rw [World.cell?_setCell_other _ _ _ _ (by intro h; injection h with _ h2 _; exact e h2.symm)]
      refine h.holds i v ?_
      have : ¬ j = i := fun h => e h.symm
      simpa [Sl.cells, List.getElem?_set, this] using hv
  · refine ⟨?_, by rw [World.frozen?_setCell]; exact (h.there i hi).2⟩
    by_cases e : i = j
    · subst e; rw [World.cell?_setCell_same _ _ _ hc]; rfl
    · rw [World.cell?_setCell_other _ _ _ _ (by intro h; injection h with _ h2 _; exact e h2.symm)]; exact (h.there i hi).1

theorem xor_top {M k : Nat} (h : M < 2 ^ k) : M ^^^ 2 ^ k = M + 2 ^ k := by
  have hp := Nat.two_pow_pos k
  have e1 : (M ^^^ 2 ^ k) % 2 ^ k = M := by rw [Nat.xor_mod_two_pow, Nat.mod_self, Nat.xor_zero, Nat.mod_eq_of_lt h]
  have e2 : (M ^^^ 2 ^ k) / 2 ^ k = 1 := by rw [Nat.xor_div_two_pow, Nat.div_self hp, Nat.div_eq_of_lt h, Nat.zero_xor]
  have e3 := Nat.div_add_mod (M ^^^ 2 ^ k) (2 ^ k)
  rw [e1, e2] at e3
  omega
theorem xor_flag {a M k : Nat} (h : M < 2 ^ k) : 2 ^ a * M ^^^ 2 ^ (a + k) = 2 ^ a * (M + 2 ^ k) := by
  rw [Nat.pow_add, ← xor_top h, Nat.mul_comm _ M, Nat.mul_comm _ (2 ^ k), Nat.mul_comm _ (M ^^^ 2 ^ k), ← Nat.shiftLeft_eq, ← Nat.shiftLeft_eq, ← Nat.shiftLeft_eq, Nat.shiftLeft_xor_distrib]

/-- Changed by E, a sealed text is opened just where E, moved, is 0. -/
theorem seal_told (p l : List UInt8) (E : Nat) (hl : l.length = p.length + 4) (hle : Oct.leB l = Oct.leB (sealB p) ^^^ E) : Oct.leB (l.drop p.length) = Crc.more 0 (l.take p.length) ↔ Crc.moves (8 * p.length) E = 0 := by
  have h := Crc.told p (Oct.fixB 4 (Crc.more 0 p)) (l.take p.length) (l.drop p.length) (by simp; omega) (le_fix 4 _ (Crc.more_lt _ _))
  rw [h, List.take_append_drop, hle, show p ++ Oct.fixB 4 (Crc.more 0 p) = sealB p from rfl, Nat.xor_comm, ← Nat.xor_assoc, Nat.xor_self, Nat.zero_xor]
theorem burst_told (p l : List UInt8) (a M : Nat) (hM : M < 2 ^ 32) (hl : l.length = p.length + 4) (hle : Oct.leB l = Oct.leB (sealB p) ^^^ 2 ^ a * M) : Oct.leB (l.drop p.length) = Crc.more 0 (l.take p.length) ↔ M = 0 := by
  rw [seal_told p l _ hl hle]
  constructor
  · intro h
    by_cases h0 : M = 0
    · exact h0
    · exact absurd h (Crc.burst_ne _ _ _ hM h0)
  · rintro rfl; rw [Nat.mul_zero, Crc.moves_zero]

theorem xor_shift_byte (u : UInt8) (r : Nat) (h : r < 8) : bits BinOp.xor IntKind.u8 (u.toNat : Int) (2 ^ r % 256) = ((u ^^^ UInt8.ofNat (2 ^ r)).toNat : Int) := by
  have e : (2 : Int) ^ r = ((2 ^ r : Nat) : Int) := by rw [Int.natCast_pow]; rfl
  have h2 : (2 : Nat) ^ r < 256 := Nat.lt_of_le_of_lt (Nat.pow_le_pow_right (n := 2) (by omega) (show r ≤ 7 by omega)) (by decide)
  rw [← xor_bytes, pow8 r h, e]
  generalize 2 ^ r = z at *
  rw [Int.emod_eq_of_lt (by omega) (by omega)]

/-- Open, of what a sealed text was changed into. -/
theorem open_cells (b : Nat) (p l : List UInt8) (w : World) (ht : TabAt w b) (hb : b < w.heap.size) (hl : l.length = p.length + 4) (hs : l.length ≤ 549755813000) (good : Prop) (hg : (Oct.leB (l.drop p.length) = Crc.more 0 (l.take p.length)) ↔ good) :
    Calls Try.prog 41 #[.pointer (some ⟨b, 0, none⟩), .string ⟨l.toArray⟩] w fun e w' => (∃ v, e = .returned v ∧ (good → v = .tuple #[.string ⟨(l.take p.length).toArray⟩, .int .i64 0]) ∧ (¬ good → v = .tuple #[.string ⟨#[]⟩, .int .i64 7])) ∧ Below w.heap.size w w' := by
  have e1 : ((⟨l.toArray⟩ : ByteArray).extract p.length (⟨l.toArray⟩ : ByteArray).size).data.toList = l.drop p.length := by
    rw [extract_list, ba_size]
    exact List.take_of_length_le (by simp)
  have e2 : ((⟨l.toArray⟩ : ByteArray).extract 0 p.length).data.toList = l.take p.length := by
    rw [extract_list]; simp
  have e3 : (⟨l.toArray⟩ : ByteArray).extract 0 p.length = ⟨(l.take p.length).toArray⟩ := by
    rw [← e2, ba_self]
  refine (open_long b ⟨l.toArray⟩ p.length _ _ w ht hb (by rw [ba_size]; exact hs) (by rw [ba_size]; exact hl) (congrArg Oct.leB e1) (congrArg (Crc.more 0) e2)).mono ?_
  rintro e w' ⟨rfl, hk⟩
  refine ⟨⟨_, rfl, fun h => ?_, fun h => ?_⟩, hk⟩
  · rw [openV, if_pos (hg.2 h), e3]
  · rw [openV, if_neg (fun h' => h (hg.1 h'))]

set_option maxRecDepth 10000 in
set_option maxHeartbeats 1600000 in
theorem crcBursts_any (s : ByteArray) (at_ : Int) (bs : Nat) (w : World) (hs : s.size ≤ maxLen) (hbs : bs < 4294967296) (h0 : -9223372036854775808 ≤ at_) (h1 : at_ ≤ 9223372036854775807) :
    Calls Try.prog 10 #[.string s, .int .i64 at_, .int .u32 (bs : Int)] w fun e w' => e = .returned (.bool true) ∧ Below w.heap.size w w' := by
  go_enter Try.func10, Try.ntmps10
  go_wp2_with fail
  refine (awake2_any _).mono ?_
  rintro e w2 ⟨rfl, hk2⟩
  go_wp2_with fail
  refine (make_any _).mono ?_
  rintro e w3 ⟨b, rfl, hb3, hb, hk3, ht⟩
  have Ht : Hid (TabAt w3 b) := ht
  have HK3 : Hid (Below w.heap.size w w3) := hk2.trans (hk3.mono hk2.size)
  clear ht hk2 hk3 hb3
  go_wp2_with fail
  refine (cut_any s 300 _ hs).mono ?_
  rintro e w4 ⟨rfl, rfl⟩
  have hs2 : (s.extract 0 300).size ≤ 300 := by rw [extract_size]; omega
  generalize s.extract 0 300 = t at *
  go_wp2_with fail
  refine (seal_any b t _ Ht.out hb (by omega)).mono ?_
  rintro e w5 ⟨rfl, hk5⟩
  have Ht5 : Hid (TabAt w5 b) := Ht.out.below hb hk5
  have hb5 : b < w5.heap.size := Nat.lt_of_lt_of_le hb hk5.size
  have HK5 : Hid (Below w.heap.size w w5) := HK3.out.trans (hk5.mono HK3.out.size)
  clear Ht hb HK3 hk5
  obtain ⟨v, w6, hrun, ho, hk6, hnn, hown⟩ := run_bytes ⟨(sealB t.data.toList).toArray⟩ w5 (by rw [ba_size, sealB_length]; simp; omega)
  obtain ⟨N, hN⟩ : ∃ N, (sealB t.data.toList).length = N := ⟨_, rfl⟩
  have hNt : N = t.size + 4 := by rw [← hN, sealB_length]; simp
  obtain ⟨g, cap, rfl, has⟩ : ∃ g cap, v = .slice (some ⟨g, 0, none⟩) N cap ∧ Sl.Has w6 g cap (Sl.cells (sealB t.data.toList)) := by
    rcases ho with ⟨h, _⟩ | ⟨g, cap, h, h2⟩
    · exact absurd h hnn
    · rw [Sl.cells_length] at h
      exact ⟨g, cap, by rw [h, ← hN], h2⟩
  have hg : g = w5.heap.size := by simpa [Value.ownBlock] using hown
  have hgw : w.heap.size ≤ g := by rw [hg]; exact HK5.out.size
  have hbg : b ≠ g := by omega
  have Ht6 : Hid (TabAt w6 b) := Ht5.out.below hb5 hk6
  have hb6 : b < w6.heap.size := Nat.lt_of_lt_of_le hb5 hk6.size
  have HK6 : Hid (Below w.heap.size w w6) := HK5.out.trans (hk6.mono HK5.out.size)
  have hN2 : N ≤ 304 := by omega
  have HNt := hid hNt
  clear hNt
  clear ho hnn hown hg hk6 Ht5 hb5 HK5
  go_wp2
  clear hrun
  obtain ⟨S, hS⟩ : ∃ S, sealB t.data.toList = S := ⟨_, rfl⟩
  rw [hS] at has hN
  have HS := hid hS
  clear hS
  go_loopw [9, 10] (fun ch i wr => ∃ (k M : Nat) (l : List UInt8) (cb : Bool), k ≤ 32 ∧ i = .int .i64 (k : Int) ∧ M < 2 ^ k ∧ ch = .bool cb ∧ (cb = true ↔ M ≠ 0) ∧ l.length = N ∧ Oct.leB l = Oct.leB S ^^^ (2 ^ at_.toNat * M) ∧ Sl.Has wr g cap (Sl.cells l) ∧ Below w.heap.size w wr ∧ TabAt wr b ∧ b < wr.heap.size) (fun _ i _ => 32 - (intOf i).toNat)
  case atStart => exact ⟨0, 0, S, false, by omega, rfl, by simp, rfl, by simp, hN, by simp, has, HK6.out, Ht6.out, hb6⟩
  case round =>
    obtain ⟨k, M, l, cb, hk, rfl, hM, rfl, hcb, hl, hle, hasl, hbl, htl, hbz⟩ := hrel
    have HM := hid (fun _ : Unit => hM)
    have Hle := hid (fun _ : Unit => hle)
    have Hbl := hid hbl
    have Htl := hid htl
    have Hcb := hid hcb
    clear hM hle hbl htl has HK6 Ht6 hb6 hcb
    by_cases hlt : k < 32
    · have hand : bits BinOp.and IntKind.u32 ((bs : Int) / 2 ^ k) 1 = ((bs / 2 ^ k % 2 : Nat) : Int) := by
        have e := u32_and_nat (bs / 2 ^ k) 1 (Nat.lt_of_le_of_lt (Nat.div_le_self _ _) hbs) (by decide)
        rw [nat_mask1] at e
        rw [← e, Int.natCast_ediv, Int.natCast_pow]; rfl
      have hbt : bs / 2 ^ k % 2 = 0 ∨ bs / 2 ^ k % 2 = 1 := by omega
      generalize bs / 2 ^ k % 2 = bt at *
      by_cases hc : bt = 1 ∧ 0 ≤ at_ ∧ at_ < 8 * (N : Int) - (k : Int)
      · obtain ⟨rfl, hc2, hc3⟩ := hc
        obtain ⟨a, rfl⟩ := Int.eq_ofNat_of_zero_le hc2
        rw [Int.toNat_natCast] at Hle
        obtain ⟨p, hp⟩ : ∃ p, p = a + k := ⟨_, rfl⟩
        have hp8 : p < 8 * N := by omega
        obtain ⟨q, hq⟩ : ∃ q, q = p / 8 := ⟨_, rfl⟩
        obtain ⟨r, hr⟩ : ∃ r, r = p % 8 := ⟨_, rfl⟩
        have e1 : ((a : Int) + (k : Int)) / 8 = (q : Int) := by omega
        have e2 : ((a : Int) + (k : Int)) % 8 = (r : Int) := by omega
        have hqN : q < N := by omega
        have i1 : (q : Int) < (N : Int) := by omega
        have hr8 : r < 8 := by omega
        obtain ⟨u, hu⟩ : ∃ u : UInt8, l.getD q 0 = u := ⟨_, rfl⟩
        have hcl : wr.cell? ⟨g, q, none⟩ = some (.int .u8 (u.toNat : Int)) := by
          rw [← hu]
          refine hasl.holds q _ ?_
          have : q < l.length := by omega
          simp [Sl.cells, this, List.getD_eq_getElem?_getD]
        have hfr : wr.frozen? ⟨g, q, none⟩ = false := (hasl.there q (by have := hasl.le; rw [Sl.cells_length] at this; omega)).2
        have H2 := hid (xor_bytes u (UInt8.ofNat (2 ^ r)))
        have H3 := hid (pow8 r hr8)
        have Has := hid hasl
        have Hp := hid hp
        have Hq := hid hq
        have Hr := hid hr
        have Hu := hid hu
        clear hasl hp hq hr hp8 hu
        go_wp2
        go_region
        go_wp2
        go_roundw
        case rel =>
          have hx := xor_shift_byte u r hr8
          have hpq : flipBit l p = l.set q (u ^^^ UInt8.ofNat (2 ^ r)) := by
            unfold flipBit
            rw [← Hq.out, ← Hr.out, Hu.out]
          have hM := HM.out ()
          have h2 : 2 ^ (k + 1) = 2 ^ k * 2 := Nat.pow_succ 2 k
          have h3 := Nat.two_pow_pos k
          refine ⟨k + 1, M + 2 ^ k, flipBit l p, true, by omega, by go_num, by omega, rfl, by simp, by rw [flipBit_length]; exact hl, ?_, ?_, (Hbl.out.setCell hgw _).drew, (Htl.out.but hbz (But.set g wr q _) hbg).drewN, by rw [World.size_drew, World.size_setCell]; exact hbz⟩
          · rw [leB_flip l p (by rw [hl, Hp.out]; omega), Hle.out (), Nat.xor_assoc, Hp.out, xor_flag hM, Int.toNat_natCast]
          · rw [hpq]
            exact (Sl.Has.setByte Has.out (by rw [hl]; exact hqN) _ hx).block rfl (Nat.le_refl _)
        case measure => simp [intOf]; omega
      · go_wp2
        all_goals
          go_roundw
          case rel => exact ⟨k + 1, M, l, cb, by omega, by go_num, Nat.lt_of_lt_of_le (HM.out ()) (Nat.pow_le_pow_right (by omega) (by omega)), rfl, Hcb.out, hl, Hle.out (), hasl, Hbl.out, Htl.out, hbz⟩
          case measure => simp [intOf]; omega
    · obtain rfl : k = 32 := by omega
      have hif := burst_told t.data.toList l at_.toNat M (HM.out ()) (by rw [hl]; simpa using HNt.out) (by rw [Hle.out (), HS.out])
      have hst := str_of wr _ l (.inr ⟨g, cap, rfl, hasl⟩)
      rw [Sl.cells_length, hl] at hst
      have Hop := hid (fun w h1 h2 => open_cells b t.data.toList l w h1 h2 (by rw [hl]; simpa using HNt.out) (by omega) _ hif)
      clear hif HM Hle HS HNt
      go_wp2_with fail
      refine (Hop.out _ Htl.out hbz).mono ?_
      rintro e w7 ⟨⟨v, rfl, hv1, hv2⟩, hk7⟩
      have HK7 : Hid (Below w.heap.size w w7) := Hbl.out.trans (hk7.mono Hbl.out.size)
      clear hk7 Hbl Htl Hop hst
      by_cases h0 : M = 0
      · have hv := hv1 h0
        have hc : cb = false := by
          cases cb
          · rfl
          · exact absurd h0 (Hcb.out.1 rfl)
        subst hc hv
        clear hv1 hv2 Hcb
        go_wp2
        go_ret
        exact ⟨rfl, HK7.out⟩
      · have hv := hv2 h0
        have hc : cb = true := Hcb.out.2 h0
        subst hc hv
        clear hv1 hv2 Hcb
        go_wp2
        go_ret
        exact ⟨rfl, HK7.out⟩

theorem crcBursts_row (a0 : ByteArray) (a1 a2 : Int) (w0 : a0.size ≤ maxLen) (w1 : (Lit.int .i64 a1).wf = true) (w2 : (Lit.int .u32 a2).wf = true) (w : World) :
    Calls Try.prog 10 #[.string a0, .int .i64 a1, .int .u32 a2] w fun e w' => e = .returned (.bool true) ∧ Below w.heap.size w w' := by
  obtain ⟨k, rfl⟩ := Int.eq_ofNat_of_zero_le (wf_u32 w2).1
  exact crcBursts_any a0 a1 k w w0 (by have := (wf_u32 w2).2; omega) (wf_i64 w1).1 (wf_i64 w1).2
end Go.Proofs.Ytedhecbcpcmlmaa
