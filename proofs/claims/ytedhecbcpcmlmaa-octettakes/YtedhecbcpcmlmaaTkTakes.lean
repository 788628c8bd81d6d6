/-
  takes: one thing of both, walked.
-/
import Derived.Test.YtedhecbcpcmlmaaTkRef
import Derived.Test.YtedhecbcpcmlmaaTakeRow
import Derived.Test.YtedhecbcpcmlmaaGhost
import Derived.Deep.CutBlock
import Derived.Deep.CutRange
import Derived.Deep.RegionWith
import Derived.Laws.IdiomStrings
namespace Go.Proofs.Ytedhecbcpcmlmaa
open Go.RowKit

theorem and255 (K : Int) : ∃ r : Nat, bits BinOp.and IntKind.i64 K 255 = (r : Int) ∧ r ≤ 255 := by
  refine ⟨(BitVec.ofInt 64 K &&& BitVec.ofInt 64 255).toNat, ?_, ?_⟩
  · show IntKind.i64.wrap ((BitVec.ofInt 64 K &&& BitVec.ofInt 64 255).toNat : Int) = _
    have h : (BitVec.ofInt 64 K &&& BitVec.ofInt 64 255).toNat ≤ 255 := by rw [BitVec.toNat_and]; exact Nat.and_le_right
    rw [IntKind.wrap_i64]
    omega
  · rw [BitVec.toNat_and]; exact Nat.and_le_right
theorem But.new {b g : Nat} {w w1 w2 : World} (h : But b w w1) (hl : w.heap.size ≤ g) (h2 : But g w1 w2) : But b w w2 :=
  ⟨h2.os.trans h.os, h2.tape.trans h.tape, h2.output.trans h.output, Nat.le_trans h.size h2.size, fun i hi hne => (h2.block i (Nat.lt_of_lt_of_le hi h.size) (fun e => by injection e with e; omega)).trans (h.block i hi hne)⟩
theorem InAt.but {w w' : World} {b g : Nat} {s : ByteArray} {er : Nat} (h : InAt w b s er) (hb : But g w w') (hne : b ≠ g) : InAt w' b s er := by
  have e := hb.block b h.lt (fun e => by injection e with e; exact hne e)
  refine ⟨Nat.lt_of_lt_of_le h.lt hb.size, ?_, ?_, ?_, ?_, h.sz⟩
  · have := h.c0; unfold World.cell? at this ⊢; rw [e]; exact this
  · have := h.c1; unfold World.cell? at this ⊢; rw [e]; exact this
  · have := h.f0; unfold World.frozen? at this ⊢; rw [e]; exact this
  · have := h.f1; unfold World.frozen? at this ⊢; rw [e]; exact this
/-- A thing to take, in a box. -/
structure TkB (w : World) (b : Nat) (K M : Int) : Prop where
  lt : b < w.heap.size
  c0 : w.cell? ⟨b, 0, none⟩ = some (.int .i64 K)
  c1 : w.cell? ⟨b, 1, none⟩ = some (.int .i64 M)
theorem TkB.but {w w' : World} {b g : Nat} {K M : Int} (h : TkB w b K M) (hb : But g w w') (hne : b ≠ g) : TkB w' b K M := by
  have e := hb.block b h.lt (fun e => by injection e with e; exact hne e)
  refine ⟨Nat.lt_of_lt_of_le h.lt hb.size, ?_, ?_⟩
  · have := h.c0; unfold World.cell? at this ⊢; rw [e]; exact this
  · have := h.c1; unfold World.cell? at this ⊢; rw [e]; exact this
theorem tk_three (w : World) (b : Nat) (s : ByteArray) (er : Nat) (K M : Int) (hI : InAt w b s er) : ∃ W1, ((w.alloc (.cells #[.string s, .int .i64 (er : Int)] 28)).alloc (.cells #[.int .i64 K, .int .i64 M] 32)).alloc (.cells #[.string ⟨#[]⟩, .int .i64 0] 28) = W1 ∧
    InAt W1 b s er ∧ InAt W1 w.heap.size s er ∧ TkB W1 (w.heap.size + 1) K M ∧ InAt W1 (w.heap.size + 2) ByteArray.empty 0 ∧ Reg.Keeps w W1 := by
  have k1 : Reg.Keeps w (w.alloc (.cells #[.string s, .int .i64 (er : Int)] 28)) := (Reg.Keeps.refl w).alloc _
  have k2 : Reg.Keeps w ((w.alloc (.cells #[.string s, .int .i64 (er : Int)] 28)).alloc (.cells #[.int .i64 K, .int .i64 M] 32)) := k1.alloc _
  have h3 := inAt_new ((w.alloc (.cells #[.string s, .int .i64 (er : Int)] 28)).alloc (.cells #[.int .i64 K, .int .i64 M] 32)) ByteArray.empty 0 (Nat.zero_le _)
  rw [show ((w.alloc (.cells #[.string s, .int .i64 (er : Int)] 28)).alloc (.cells #[.int .i64 K, .int .i64 M] 32)).heap.size = w.heap.size + 2 from by simp] at h3
  have t : TkB ((w.alloc (.cells #[.string s, .int .i64 (er : Int)] 28)).alloc (.cells #[.int .i64 K, .int .i64 M] 32)) (w.heap.size + 1) K M := by
    have e := World.size_alloc w (.cells #[.string s, .int .i64 (er : Int)] 28)
    refine ⟨by simp, ?_, ?_⟩
    · rw [← e, World.cell?_alloc_new]; rfl
    · rw [← e, World.cell?_alloc_new]; rfl
  have h2 := (inAt_new w s er hI.sz).keeps (w' := ((w.alloc (.cells #[.string s, .int .i64 (er : Int)] 28)).alloc (.cells #[.int .i64 K, .int .i64 M] 32)).alloc (.cells #[.string ⟨#[]⟩, .int .i64 0] 28)) (((Reg.Keeps.refl _).alloc _).alloc _)
  have k3 := k2.alloc (.cells #[.string ⟨#[]⟩, .int .i64 0] 28)
  have kk : Reg.Keeps ((w.alloc (.cells #[.string s, .int .i64 (er : Int)] 28)).alloc (.cells #[.int .i64 K, .int .i64 M] 32)) (((w.alloc (.cells #[.string s, .int .i64 (er : Int)] 28)).alloc (.cells #[.int .i64 K, .int .i64 M] 32)).alloc (.cells #[.string ⟨#[]⟩, .int .i64 0] 28)) := (Reg.Keeps.refl _).alloc _
  refine ⟨_, rfl, hI.keeps k3, h2, t.but (But.keeps (b := w.heap.size + 2) kk) (by omega), h3, k3⟩

theorem InAt.drew {w : World} {b : Nat} {s : ByteArray} {er : Nat} (h : InAt w b s er) : InAt w.drew b s er := ⟨h.lt, h.c0, h.c1, h.f0, h.f1, h.sz⟩
theorem TkB.drew {w : World} {b : Nat} {K M : Int} (h : TkB w b K M) : TkB w.drew b K M := ⟨h.lt, h.c0, h.c1⟩
theorem TkB.keeps {w w' : World} {b : Nat} {K M : Int} (h : TkB w b K M) (hk : Reg.Keeps w w') : TkB w' b K M := h.but (But.keeps (b := b + 1) hk) (by omega)
theorem pBytes_inv (s : ByteArray) (er : Nat) (n : Int) (h : er ≠ 0 → s = ByteArray.empty) : (pBytes s er n).2.2 ≠ 0 → (pBytes s er n).2.1 = ByteArray.empty := by
  unfold pBytes
  split
  · exact h
  · split
    · intro _; rfl
    · intro he
      show s.extract n.toNat s.size = ByteArray.empty
      rw [h he]
      apply ByteArray.ext
      simp
theorem pStr_size (s : ByteArray) (er m : Nat) (hs : s.size ≤ maxLen) : (pStr s er m).2.1.size ≤ maxLen := pBytes_size2 _ _ _ (pNum_size s er m hs)
theorem pStr_inv (s : ByteArray) (er m : Nat) (h : er ≠ 0 → s = ByteArray.empty) : (pStr s er m).2.2 ≠ 0 → (pStr s er m).2.1 = ByteArray.empty := pBytes_inv _ _ _ (pNum_inv s er m h)
theorem pBytes_all (s : ByteArray) (er : Nat) : pBytes s er (s.size : Int) = (s, ByteArray.empty, er) := by
  unfold pBytes
  split
  · rename_i h
    have h0 : s.size = 0 := by omega
    have e0 : s = ByteArray.empty := by
      apply ByteArray.ext
      rw [Array.eq_empty_of_size_eq_zero (show s.data.size = 0 from h0)]; rfl
    rw [e0]
  · rw [if_neg (by omega)]
    have e1 : s.extract 0 (s.size : Int).toNat = s := by apply ByteArray.ext; simp
    have e2 : s.extract (s.size : Int).toNat s.size = ByteArray.empty := by apply ByteArray.ext; simp
    rw [e1, e2]
theorem leB_word (s : ByteArray) (er : Nat) : Oct.leB (pBytes s er 4).1.data.toList < 4294967296 := by
  have h := pBytes_size s er 4
  have h2 := Oct.leB_lt (pBytes s er 4).1.data.toList
  have h3 : (pBytes s er 4).1.data.toList.length ≤ 4 := by simp; exact h
  exact Nat.lt_of_lt_of_le h2 (Nat.le_trans (Nat.pow_le_pow_right (by decide) h3) (by decide))
/-- What holds behind one thing taken. -/
def TkRel (b b4 b6 : Nat) (w wx : World) : Prop :=
  ∃ (s' : ByteArray) (er' : Nat), InAt wx b s' er' ∧ InAt wx b4 s' er' ∧ InAt wx b6 ByteArray.empty 0 ∧ (er' ≠ 0 → s' = ByteArray.empty) ∧ But b w wx
/-- How taking one thing ends. -/
def TkOut (b : Nat) (w w' : World) (v : Value) : Prop :=
  ∃ (s' : ByteArray) (er' : Nat), Ending.returned v = .returned (.tuple #[.agg #[.string s', .int .i64 (er' : Int)], .bool true]) ∧ InAt w' b s' er' ∧ (er' ≠ 0 → s' = ByteArray.empty) ∧ But b w w'
theorem tk_end {b b4 b6 er er1 : Nat} {s s1 : ByteArray} {w w3 w4 : World} (HK : Reg.Keeps w w3) (HB : But b w3.drew w4) (hi : InAt w4 b s1 er1) (h4 : InAt w4 b4 s er) (h6 : InAt w4 b6 ByteArray.empty 0)
    (hb : b < b4) (hb6 : b6 ≠ b4) (hl : w.heap.size ≤ b4) (hinv : er1 ≠ 0 → s1 = ByteArray.empty) :
    TkRel b b4 b6 w ((w4.setCell ⟨b4, 0, none⟩ (.string s1)).setCell ⟨b4, 1, none⟩ (.int .i64 (er1 : Int))) := by
  have hs := h4.set s1 er1 hi.sz
  exact ⟨s1, er1, hi.but hs.2 (by omega), hs.1, h6.but hs.2 hb6, hinv, (((But.keeps HK).trans (But.keeps ((Reg.Keeps.refl w3).drewN 1))).trans HB).new hl hs.2⟩
theorem tk_end2 {b b4 b6 k : Nat} {w w2 w4 : World} (HK : But b w w2) (HB : But b w2.drew w4) (hi : InAt w4 b ByteArray.empty k) (h4 : InAt w4 b4 ByteArray.empty k) (h6 : InAt w4 b6 ByteArray.empty 0) : TkRel b b4 b6 w w4 :=
  ⟨_, k, hi, h4, h6, fun _ => rfl, (HK.trans (But.keeps ((Reg.Keeps.refl w2).drewN 1))).trans HB⟩
theorem leB_byte (s : ByteArray) (er : Nat) : Oct.leB (pBytes s er 1).1.data.toList < 256 := by
  have h := pBytes_size s er 1
  have h2 := Oct.leB_lt (pBytes s er 1).1.data.toList
  have h3 : (pBytes s er 1).1.data.toList.length ≤ 1 := by simp; exact h
  exact Nat.lt_of_lt_of_le h2 (Nat.le_trans (Nat.pow_le_pow_right (by decide) h3) (by decide))

set_option maxRecDepth 20000 in
set_option maxHeartbeats 16000000 in
theorem takes_any (b : Nat) (s : ByteArray) (er : Nat) (K M : Int) (w : World) (hI : InAt w b s er) (hinv : er ≠ 0 → s = ByteArray.empty) (hM : -9223372036854775808 ≤ M ∧ M ≤ 9223372036854775807) :
    Calls Try.prog 17 #[.pointer (some ⟨b, 0, none⟩), .agg #[.string s, .int .i64 (er : Int)], .agg #[.int .i64 K, .int .i64 M]] w fun e w' =>
      ∃ (s' : ByteArray) (er' : Nat), e = .returned (.tuple #[.agg #[.string s', .int .i64 (er' : Int)], .bool true]) ∧ InAt w' b s' er' ∧ (er' ≠ 0 → s' = ByteArray.empty) ∧ But b w w' := by
  obtain ⟨W1, hW1, hIb, hI4, hT, hI6, hk1⟩ := tk_three w b s er K M hI
  obtain ⟨r, hr, hr2⟩ := and255 K
  have hsz := hI.sz
  have hlt := hI.lt
  obtain ⟨b4, hb4⟩ : ∃ b4, w.heap.size = b4 := ⟨_, rfl⟩
  rw [hb4] at hI4 hT hI6
  obtain ⟨b5, hb5⟩ : ∃ b5, b4 + 1 = b5 := ⟨_, rfl⟩
  obtain ⟨b6, hb6⟩ : ∃ b6, b5 + 1 = b6 := ⟨_, rfl⟩
  have hb46 : b4 + 2 = b6 := by omega
  rw [hb5] at hT
  rw [hb46] at hI6
  obtain ⟨z4, hz4⟩ : ∃ z4, W1.heap.size = z4 := ⟨_, rfl⟩
  have d0 := hI4.c0
  have d1 := hI4.c1
  have c0 := hT.c0
  have c1 := hT.c1
  have HI := hid hIb
  have HI4 := hid hI4
  have HI6 := hid hI6
  have HT := hid hT
  have HK := hid hk1
  have HB0 := hid (show b < b4 ∧ w.heap.size = b4 ∧ b4 + 1 = b5 ∧ b4 + 2 = b6 from ⟨by omega, hb4, hb5, hb46⟩)
  clear hIb hI4 hT hI6 hk1 hI hlt hz4 z4
  go_enter Try.func17, Try.ntmps17
  go_upto_region 1 with fail
  try rw [hb4]
  try rw [hb5]
  try rw [hb6]
  try rw [hW1]
  clear hW1 hb4 hb5 hb6 hb46
  go_upto_block 0 with fail
  go_cut [8] from 9 (fun s8 wx => s8 = .bool true ∧ TkRel b b4 b6 w wx)
  case first =>
    go_upto_region 3 with fail
    obtain ⟨j, hj⟩ : ∃ j : Int, (r : Int) % 9 = j := ⟨_, rfl⟩
    have hj9 : j = 0 ∨ j = 1 ∨ j = 2 ∨ j = 3 ∨ j = 4 ∨ j = 5 ∨ j = 6 ∨ j = 7 ∨ j = 8 := by omega
    rw [hj]
    clear hj hr hr2
    rcases hj9 with rfl | rfl | rfl | rfl | rfl | rfl | rfl | rfl | rfl
    · have HQ := hid (rwhole_any s er 1 W1 hsz hinv (by decide))
      have HPC := hid (fun w h => inByte_any b s er w h)
      have HSZ := hid (pBytes_size2 s er 1 hsz)
      have HINV := hid (pBytes_inv s er 1 hinv)
      have HL := hid (leB_byte s er)
      generalize pBytes s er 1 = p at *
      obtain ⟨u, s1, er1⟩ := p
      dsimp only at *
      generalize Oct.leB u.data.toList = n at *
      have hn : IntKind.u64.wrap (n : Int) = (n : Int) := by have := HL.out; rw [IntKind.wrap_u64]; omega
      go_wp2_with fail
      refine HQ.out.mono ?_
      rintro e w2 ⟨rfl, hk2⟩
      obtain ⟨z, hz⟩ : ∃ z, w2.heap.size = z := ⟨_, rfl⟩
      have hx := inAt_new w2 s1 er1 HSZ.out
      have hk3 : Reg.Keeps w2 (w2.alloc (.cells #[.string s1, .int .i64 (er1 : Int)] 28)) := (Reg.Keeps.refl _).alloc _
      obtain ⟨w3, hw3⟩ : ∃ w3, w2.alloc (.cells #[.string s1, .int .i64 (er1 : Int)] 28) = w3 := ⟨_, rfl⟩
      rw [hw3] at hx hk3
      rw [hz] at hx
      have hk13 := Reg.Keeps.trans hk2 hk3
      have HZ := hid hx
      have HBZ := hid (show b6 < z from by have := HI6.out.lt; have := hk2.size; omega)
      have HI3 := hid (HI.out.keeps hk13).drew
      have HI43 := hid (HI4.out.keeps hk13)
      have HI63 := hid (HI6.out.keeps hk13)
      have HT3 := hid (HT.out.keeps hk13)
      have HK3 := hid (Reg.Keeps.trans HK.out hk13)
      have c0 := HT3.out.c0
      have c1 := HT3.out.c1
      have d0 := HI43.out.c0
      have d1 := HI43.out.c1
      have g0 := HI43.out.f0
      have g1 := HI43.out.f1
      have e0 := hx.c0
      have e1 := hx.c1
      clear hk2 hk3 hk13 hx
      go_upto_region 5 with fail
      try rw [hz]
      try rw [hw3]
      clear hw3 hz
      go_region_with (go_at_call 38; refine (HPC.out _ HI3.out).mono ?_; rintro e w4 ⟨rfl, hi, hb⟩; have HI4b := hid hi; have HB4 := hid hb; have HI44 := hid (HI43.out.drew.but hb (by have := HB0.out; omega)); have HI64 := hid (HI63.out.drew.but hb (by have := HB0.out; omega)); have HT4 := hid (HT3.out.drew.but hb (by have := HB0.out; omega)); have c0b := HT4.out.c0; have c1b := HT4.out.c1; have HZ4 := hid (HZ.out.drew.but hb (by have := HB0.out; have := HBZ.out; omega)); have d0b := HI44.out.c0; have d1b := HI44.out.c1; have g0b := HI44.out.f0; have g1b := HI44.out.f1; have e0b := HZ4.out.c0; have e1b := HZ4.out.c1; clear hi hb)
      all_goals go_wp2_with fail
      all_goals go_meet
      all_goals exact ⟨by simp, tk_end HK3.out HB4.out HI4b.out HI44.out HI64.out HB0.out.1 (by have := HB0.out; omega) (by have := HB0.out; omega) HINV.out⟩
    · obtain ⟨most, hmost⟩ : ∃ most : Nat, IntKind.u64.wrap M = (most : Int) := ⟨(IntKind.u64.wrap M).toNat, (Int.toNat_of_nonneg (wrap_u64_nonneg M)).symm⟩
      have HQ := hid (rnumber_any s er most W1 hsz hinv)
      have HPC := hid (fun w h => inNum_any b s er most w h)
      have HSZ := hid (pNum_size s er most hsz)
      have HINV := hid (pNum_inv s er most hinv)
      generalize pNum s er most = p at *
      obtain ⟨u, s1, er1⟩ := p
      dsimp only at *
      go_wp2_with fail
      refine HQ.out.mono ?_
      rintro e w2 ⟨rfl, hk2⟩
      obtain ⟨z, hz⟩ : ∃ z, w2.heap.size = z := ⟨_, rfl⟩
      have hx := inAt_new w2 s1 er1 HSZ.out
      have hk3 : Reg.Keeps w2 (w2.alloc (.cells #[.string s1, .int .i64 (er1 : Int)] 28)) := (Reg.Keeps.refl _).alloc _
      obtain ⟨w3, hw3⟩ : ∃ w3, w2.alloc (.cells #[.string s1, .int .i64 (er1 : Int)] 28) = w3 := ⟨_, rfl⟩
      rw [hw3] at hx hk3
      rw [hz] at hx
      have hk13 := Reg.Keeps.trans hk2 hk3
      have HZ := hid hx
      have HBZ := hid (show b6 < z from by have := HI6.out.lt; have := hk2.size; omega)
      have HI3 := hid (HI.out.keeps hk13).drew
      have HI43 := hid (HI4.out.keeps hk13)
      have HI63 := hid (HI6.out.keeps hk13)
      have HT3 := hid (HT.out.keeps hk13)
      have HK3 := hid (Reg.Keeps.trans HK.out hk13)
      have c0 := HT3.out.c0
      have c1 := HT3.out.c1
      have d0 := HI43.out.c0
      have d1 := HI43.out.c1
      have g0 := HI43.out.f0
      have g1 := HI43.out.f1
      have e0 := hx.c0
      have e1 := hx.c1
      clear hk2 hk3 hk13 hx
      go_upto_region 8 with fail
      try rw [hz]
      try rw [hw3]
      clear hw3 hz
      go_region_with (go_at_call 28; refine (HPC.out _ HI3.out).mono ?_; rintro e w4 ⟨rfl, hi, hb⟩; have HI4b := hid hi; have HB4 := hid hb; have HI44 := hid (HI43.out.drew.but hb (by have := HB0.out; omega)); have HI64 := hid (HI63.out.drew.but hb (by have := HB0.out; omega)); have HT4 := hid (HT3.out.drew.but hb (by have := HB0.out; omega)); have c0b := HT4.out.c0; have c1b := HT4.out.c1; have HZ4 := hid (HZ.out.drew.but hb (by have := HB0.out; have := HBZ.out; omega)); have d0b := HI44.out.c0; have d1b := HI44.out.c1; have g0b := HI44.out.f0; have g1b := HI44.out.f1; have e0b := HZ4.out.c0; have e1b := HZ4.out.c1; clear hi hb)
      all_goals go_wp2_with fail
      all_goals go_meet
      all_goals exact ⟨by simp, tk_end HK3.out HB4.out HI4b.out HI44.out HI64.out HB0.out.1 (by have := HB0.out; omega) (by have := HB0.out; omega) HINV.out⟩
    · have HQ := hid (rsigned_any s er W1 hsz hinv)
      have HPC := hid (fun w h => inInt_any b s er w h)
      have HSZ := hid (pNum_size s er 18446744073709551615 hsz)
      have HINV := hid (pNum_inv s er 18446744073709551615 hinv)
      generalize pNum s er 18446744073709551615 = p at *
      obtain ⟨u, s1, er1⟩ := p
      dsimp only at *
      generalize zag u = n at *
      go_wp2_with fail
      refine HQ.out.mono ?_
      rintro e w2 ⟨rfl, hk2⟩
      obtain ⟨z, hz⟩ : ∃ z, w2.heap.size = z := ⟨_, rfl⟩
      have hx := inAt_new w2 s1 er1 HSZ.out
      have hk3 : Reg.Keeps w2 (w2.alloc (.cells #[.string s1, .int .i64 (er1 : Int)] 28)) := (Reg.Keeps.refl _).alloc _
      obtain ⟨w3, hw3⟩ : ∃ w3, w2.alloc (.cells #[.string s1, .int .i64 (er1 : Int)] 28) = w3 := ⟨_, rfl⟩
      rw [hw3] at hx hk3
      rw [hz] at hx
      have hk13 := Reg.Keeps.trans hk2 hk3
      have HZ := hid hx
      have HBZ := hid (show b6 < z from by have := HI6.out.lt; have := hk2.size; omega)
      have HI3 := hid (HI.out.keeps hk13).drew
      have HI43 := hid (HI4.out.keeps hk13)
      have HI63 := hid (HI6.out.keeps hk13)
      have HT3 := hid (HT.out.keeps hk13)
      have HK3 := hid (Reg.Keeps.trans HK.out hk13)
      have c0 := HT3.out.c0
      have c1 := HT3.out.c1
      have d0 := HI43.out.c0
      have d1 := HI43.out.c1
      have g0 := HI43.out.f0
      have g1 := HI43.out.f1
      have e0 := hx.c0
      have e1 := hx.c1
      clear hk2 hk3 hk13 hx
      go_upto_region 11 with fail
      try rw [hz]
      try rw [hw3]
      clear hw3 hz
      go_region_with (go_at_call 29; refine (HPC.out _ HI3.out).mono ?_; rintro e w4 ⟨rfl, hi, hb⟩; have HI4b := hid hi; have HB4 := hid hb; have HI44 := hid (HI43.out.drew.but hb (by have := HB0.out; omega)); have HI64 := hid (HI63.out.drew.but hb (by have := HB0.out; omega)); have HT4 := hid (HT3.out.drew.but hb (by have := HB0.out; omega)); have c0b := HT4.out.c0; have c1b := HT4.out.c1; have HZ4 := hid (HZ.out.drew.but hb (by have := HB0.out; have := HBZ.out; omega)); have d0b := HI44.out.c0; have d1b := HI44.out.c1; have g0b := HI44.out.f0; have g1b := HI44.out.f1; have e0b := HZ4.out.c0; have e1b := HZ4.out.c1; clear hi hb)
      all_goals go_wp2_with fail
      all_goals go_meet
      all_goals exact ⟨by simp, tk_end HK3.out HB4.out HI4b.out HI44.out HI64.out HB0.out.1 (by have := HB0.out; omega) (by have := HB0.out; omega) HINV.out⟩
    · have HQ := hid (rtext_any s er M W1 hsz hinv hM.2)
      have HPC := hid (fun w h => inStr_any b s er M w h hM.1 hM.2)
      have HSZ := hid (pStr_size s er M.toNat hsz)
      have HINV := hid (pStr_inv s er M.toNat hinv)
      generalize pStr s er M.toNat = p at *
      obtain ⟨u, s1, er1⟩ := p
      dsimp only at *
      go_wp2_with fail
      refine HQ.out.mono ?_
      rintro e w2 ⟨rfl, hk2⟩
      obtain ⟨z, hz⟩ : ∃ z, w2.heap.size = z := ⟨_, rfl⟩
      have hx := inAt_new w2 s1 er1 HSZ.out
      have hk3 : Reg.Keeps w2 (w2.alloc (.cells #[.string s1, .int .i64 (er1 : Int)] 28)) := (Reg.Keeps.refl _).alloc _
      obtain ⟨w3, hw3⟩ : ∃ w3, w2.alloc (.cells #[.string s1, .int .i64 (er1 : Int)] 28) = w3 := ⟨_, rfl⟩
      rw [hw3] at hx hk3
      rw [hz] at hx
      have hk13 := Reg.Keeps.trans hk2 hk3
      have HZ := hid hx
      have HBZ := hid (show b6 < z from by have := HI6.out.lt; have := hk2.size; omega)
      have HI3 := hid (HI.out.keeps hk13).drew
      have HI43 := hid (HI4.out.keeps hk13)
      have HI63 := hid (HI6.out.keeps hk13)
      have HT3 := hid (HT.out.keeps hk13)
      have HK3 := hid (Reg.Keeps.trans HK.out hk13)
      have c0 := HT3.out.c0
      have c1 := HT3.out.c1
      have d0 := HI43.out.c0
      have d1 := HI43.out.c1
      have g0 := HI43.out.f0
      have g1 := HI43.out.f1
      have e0 := hx.c0
      have e1 := hx.c1
      clear hk2 hk3 hk13 hx
      go_upto_region 14 with fail
      try rw [hz]
      try rw [hw3]
      clear hw3 hz
      go_region_with (go_at_call 31; refine (HPC.out _ HI3.out).mono ?_; rintro e w4 ⟨rfl, hi, hb⟩; have HI4b := hid hi; have HB4 := hid hb; have HI44 := hid (HI43.out.drew.but hb (by have := HB0.out; omega)); have HI64 := hid (HI63.out.drew.but hb (by have := HB0.out; omega)); have HT4 := hid (HT3.out.drew.but hb (by have := HB0.out; omega)); have c0b := HT4.out.c0; have c1b := HT4.out.c1; have HZ4 := hid (HZ.out.drew.but hb (by have := HB0.out; have := HBZ.out; omega)); have d0b := HI44.out.c0; have d1b := HI44.out.c1; have g0b := HI44.out.f0; have g1b := HI44.out.f1; have e0b := HZ4.out.c0; have e1b := HZ4.out.c1; clear hi hb)
      all_goals go_wp2_with fail
      all_goals go_meet
      all_goals exact ⟨by simp, tk_end HK3.out HB4.out HI4b.out HI44.out HI64.out HB0.out.1 (by have := HB0.out; omega) (by have := HB0.out; omega) HINV.out⟩
    · have HQ := hid (rwhole_any s er 4 W1 hsz hinv (by decide))
      have HPC := hid (fun w h => inWord_any b s er w h)
      have HSZ := hid (pBytes_size2 s er 4 hsz)
      have HINV := hid (pBytes_inv s er 4 hinv)
      have HL := hid (leB_word s er)
      generalize pBytes s er 4 = p at *
      obtain ⟨u, s1, er1⟩ := p
      dsimp only at *
      generalize Oct.leB u.data.toList = n at *
      have hn : IntKind.u64.wrap (n : Int) = (n : Int) := by have := HL.out; rw [IntKind.wrap_u64]; omega
      go_wp2_with fail
      refine HQ.out.mono ?_
      rintro e w2 ⟨rfl, hk2⟩
      obtain ⟨z, hz⟩ : ∃ z, w2.heap.size = z := ⟨_, rfl⟩
      have hx := inAt_new w2 s1 er1 HSZ.out
      have hk3 : Reg.Keeps w2 (w2.alloc (.cells #[.string s1, .int .i64 (er1 : Int)] 28)) := (Reg.Keeps.refl _).alloc _
      obtain ⟨w3, hw3⟩ : ∃ w3, w2.alloc (.cells #[.string s1, .int .i64 (er1 : Int)] 28) = w3 := ⟨_, rfl⟩
      rw [hw3] at hx hk3
      rw [hz] at hx
      have hk13 := Reg.Keeps.trans hk2 hk3
      have HZ := hid hx
      have HBZ := hid (show b6 < z from by have := HI6.out.lt; have := hk2.size; omega)
      have HI3 := hid (HI.out.keeps hk13).drew
      have HI43 := hid (HI4.out.keeps hk13)
      have HI63 := hid (HI6.out.keeps hk13)
      have HT3 := hid (HT.out.keeps hk13)
      have HK3 := hid (Reg.Keeps.trans HK.out hk13)
      have c0 := HT3.out.c0
      have c1 := HT3.out.c1
      have d0 := HI43.out.c0
      have d1 := HI43.out.c1
      have g0 := HI43.out.f0
      have g1 := HI43.out.f1
      have e0 := hx.c0
      have e1 := hx.c1
      clear hk2 hk3 hk13 hx
      go_upto_region 17 with fail
      try rw [hz]
      try rw [hw3]
      clear hw3 hz
      go_region_with (go_at_call 30; refine (HPC.out _ HI3.out).mono ?_; rintro e w4 ⟨rfl, hi, hb⟩; have HI4b := hid hi; have HB4 := hid hb; have HI44 := hid (HI43.out.drew.but hb (by have := HB0.out; omega)); have HI64 := hid (HI63.out.drew.but hb (by have := HB0.out; omega)); have HT4 := hid (HT3.out.drew.but hb (by have := HB0.out; omega)); have c0b := HT4.out.c0; have c1b := HT4.out.c1; have HZ4 := hid (HZ.out.drew.but hb (by have := HB0.out; have := HBZ.out; omega)); have d0b := HI44.out.c0; have d1b := HI44.out.c1; have g0b := HI44.out.f0; have g1b := HI44.out.f1; have e0b := HZ4.out.c0; have e1b := HZ4.out.c1; clear hi hb)
      all_goals go_wp2_with fail
      all_goals go_meet
      all_goals exact ⟨by simp, tk_end HK3.out HB4.out HI4b.out HI44.out HI64.out HB0.out.1 (by have := HB0.out; omega) (by have := HB0.out; omega) HINV.out⟩
    · have HQ := hid (rwhole_any s er 8 W1 hsz hinv (by decide))
      have HPC := hid (fun w h => inLong_any b s er w h)
      have HSZ := hid (pBytes_size2 s er 8 hsz)
      have HINV := hid (pBytes_inv s er 8 hinv)
      generalize pBytes s er 8 = p at *
      obtain ⟨u, s1, er1⟩ := p
      dsimp only at *
      generalize Oct.leB u.data.toList = n at *
      go_wp2_with fail
      refine HQ.out.mono ?_
      rintro e w2 ⟨rfl, hk2⟩
      obtain ⟨z, hz⟩ : ∃ z, w2.heap.size = z := ⟨_, rfl⟩
      have hx := inAt_new w2 s1 er1 HSZ.out
      have hk3 : Reg.Keeps w2 (w2.alloc (.cells #[.string s1, .int .i64 (er1 : Int)] 28)) := (Reg.Keeps.refl _).alloc _
      obtain ⟨w3, hw3⟩ : ∃ w3, w2.alloc (.cells #[.string s1, .int .i64 (er1 : Int)] 28) = w3 := ⟨_, rfl⟩
      rw [hw3] at hx hk3
      rw [hz] at hx
      have hk13 := Reg.Keeps.trans hk2 hk3
      have HZ := hid hx
      have HBZ := hid (show b6 < z from by have := HI6.out.lt; have := hk2.size; omega)
      have HI3 := hid (HI.out.keeps hk13).drew
      have HI43 := hid (HI4.out.keeps hk13)
      have HI63 := hid (HI6.out.keeps hk13)
      have HT3 := hid (HT.out.keeps hk13)
      have HK3 := hid (Reg.Keeps.trans HK.out hk13)
      have c0 := HT3.out.c0
      have c1 := HT3.out.c1
      have d0 := HI43.out.c0
      have d1 := HI43.out.c1
      have g0 := HI43.out.f0
      have g1 := HI43.out.f1
      have e0 := hx.c0
      have e1 := hx.c1
      clear hk2 hk3 hk13 hx
      go_upto_region 20 with fail
      try rw [hz]
      try rw [hw3]
      clear hw3 hz
      go_region_with (go_at_call 32; refine (HPC.out _ HI3.out).mono ?_; rintro e w4 ⟨rfl, hi, hb⟩; have HI4b := hid hi; have HB4 := hid hb; have HI44 := hid (HI43.out.drew.but hb (by have := HB0.out; omega)); have HI64 := hid (HI63.out.drew.but hb (by have := HB0.out; omega)); have HT4 := hid (HT3.out.drew.but hb (by have := HB0.out; omega)); have c0b := HT4.out.c0; have c1b := HT4.out.c1; have HZ4 := hid (HZ.out.drew.but hb (by have := HB0.out; have := HBZ.out; omega)); have d0b := HI44.out.c0; have d1b := HI44.out.c1; have g0b := HI44.out.f0; have g1b := HI44.out.f1; have e0b := HZ4.out.c0; have e1b := HZ4.out.c1; clear hi hb)
      all_goals go_wp2_with fail
      all_goals go_meet
      all_goals exact ⟨by simp, tk_end HK3.out HB4.out HI4b.out HI44.out HI64.out HB0.out.1 (by have := HB0.out; omega) (by have := HB0.out; omega) HINV.out⟩
    · have HQ := hid (rbytes_any s er M W1 hsz hinv)
      have HPC := hid (fun w h => bytes_any b s er M w h)
      have HSZ := hid (pBytes_size2 s er M hsz)
      have HINV := hid (pBytes_inv s er M hinv)
      generalize pBytes s er M = p at *
      obtain ⟨u, s1, er1⟩ := p
      dsimp only at *
      go_wp2_with fail
      refine HQ.out.mono ?_
      rintro e w2 ⟨rfl, hk2⟩
      obtain ⟨z, hz⟩ : ∃ z, w2.heap.size = z := ⟨_, rfl⟩
      have hx := inAt_new w2 s1 er1 HSZ.out
      have hk3 : Reg.Keeps w2 (w2.alloc (.cells #[.string s1, .int .i64 (er1 : Int)] 28)) := (Reg.Keeps.refl _).alloc _
      obtain ⟨w3, hw3⟩ : ∃ w3, w2.alloc (.cells #[.string s1, .int .i64 (er1 : Int)] 28) = w3 := ⟨_, rfl⟩
      rw [hw3] at hx hk3
      rw [hz] at hx
      have hk13 := Reg.Keeps.trans hk2 hk3
      have HZ := hid hx
      have HBZ := hid (show b6 < z from by have := HI6.out.lt; have := hk2.size; omega)
      have HI3 := hid (HI.out.keeps hk13).drew
      have HI43 := hid (HI4.out.keeps hk13)
      have HI63 := hid (HI6.out.keeps hk13)
      have HT3 := hid (HT.out.keeps hk13)
      have HK3 := hid (Reg.Keeps.trans HK.out hk13)
      have c0 := HT3.out.c0
      have c1 := HT3.out.c1
      have d0 := HI43.out.c0
      have d1 := HI43.out.c1
      have g0 := HI43.out.f0
      have g1 := HI43.out.f1
      have e0 := hx.c0
      have e1 := hx.c1
      clear hk2 hk3 hk13 hx
      go_upto_region 23 with fail
      try rw [hz]
      try rw [hw3]
      clear hw3 hz
      go_region_with (go_at_call 37; refine (HPC.out _ HI3.out).mono ?_; rintro e w4 ⟨rfl, hi, hb⟩; have HI4b := hid hi; have HB4 := hid hb; have HI44 := hid (HI43.out.drew.but hb (by have := HB0.out; omega)); have HI64 := hid (HI63.out.drew.but hb (by have := HB0.out; omega)); have HT4 := hid (HT3.out.drew.but hb (by have := HB0.out; omega)); have c0b := HT4.out.c0; have c1b := HT4.out.c1; have HZ4 := hid (HZ.out.drew.but hb (by have := HB0.out; have := HBZ.out; omega)); have d0b := HI44.out.c0; have d1b := HI44.out.c1; have g0b := HI44.out.f0; have g1b := HI44.out.f1; have e0b := HZ4.out.c0; have e1b := HZ4.out.c1; clear hi hb)
      all_goals go_wp2_with fail
      all_goals go_meet
      all_goals exact ⟨by simp, tk_end HK3.out HB4.out HI4b.out HI44.out HI64.out HB0.out.1 (by have := HB0.out; omega) (by have := HB0.out; omega) HINV.out⟩
    · have HQ := hid (rbytes_any s er (s.size : Int) W1 hsz hinv)
      have HPC := hid (fun w h => rest_any b s er w h)
      rw [pBytes_all] at HQ
      have HSZ := hid (show (ByteArray.empty : ByteArray).size ≤ maxLen from Nat.zero_le _)
      go_wp2_with fail
      refine HQ.out.mono ?_
      rintro e w2 ⟨rfl, hk2⟩
      obtain ⟨z, hz⟩ : ∃ z, w2.heap.size = z := ⟨_, rfl⟩
      have hx := inAt_new w2 ByteArray.empty er HSZ.out
      have hk3 : Reg.Keeps w2 (w2.alloc (.cells #[.string ByteArray.empty, .int .i64 (er : Int)] 28)) := (Reg.Keeps.refl _).alloc _
      obtain ⟨w3, hw3⟩ : ∃ w3, w2.alloc (.cells #[.string ByteArray.empty, .int .i64 (er : Int)] 28) = w3 := ⟨_, rfl⟩
      rw [hw3] at hx hk3
      rw [hz] at hx
      have hk13 := Reg.Keeps.trans hk2 hk3
      have HZ := hid hx
      have HBZ := hid (show b6 < z from by have := HI6.out.lt; have := hk2.size; omega)
      have HI3 := hid (HI.out.keeps hk13).drew
      have HI43 := hid (HI4.out.keeps hk13)
      have HI63 := hid (HI6.out.keeps hk13)
      have HT3 := hid (HT.out.keeps hk13)
      have HK3 := hid (Reg.Keeps.trans HK.out hk13)
      have c0 := HT3.out.c0
      have c1 := HT3.out.c1
      have d0 := HI43.out.c0
      have d1 := HI43.out.c1
      have g0 := HI43.out.f0
      have g1 := HI43.out.f1
      have e0 := hx.c0
      have e1 := hx.c1
      clear hk2 hk3 hk13 hx
      go_upto_region 26 with fail
      try rw [hz]
      try rw [hw3]
      clear hw3 hz
      go_region_with (go_at_call 36; refine (HPC.out _ HI3.out).mono ?_; rintro e w4 ⟨rfl, hi, hb⟩; have HI4b := hid hi; have HB4 := hid hb; have HI44 := hid (HI43.out.drew.but hb (by have := HB0.out; omega)); have HI64 := hid (HI63.out.drew.but hb (by have := HB0.out; omega)); have HT4 := hid (HT3.out.drew.but hb (by have := HB0.out; omega)); have c0b := HT4.out.c0; have c1b := HT4.out.c1; have HZ4 := hid (HZ.out.drew.but hb (by have := HB0.out; have := HBZ.out; omega)); have d0b := HI44.out.c0; have d1b := HI44.out.c1; have g0b := HI44.out.f0; have g1b := HI44.out.f1; have e0b := HZ4.out.c0; have e1b := HZ4.out.c1; clear hi hb)
      all_goals go_wp2_with fail
      all_goals go_meet
      all_goals exact ⟨by simp, tk_end HK3.out HB4.out HI4b.out HI44.out HI64.out HB0.out.1 (by have := HB0.out; omega) (by have := HB0.out; omega) (fun _ => rfl)⟩
    · by_cases he : er = 0
      · subst he
        by_cases hs0 : 0 < s.size
        · have HP := hid (show pEnd s 0 = 2 from by unfold pEnd; rw [if_pos hs0]; rfl)
          have hd : decide ((0 : Int) < (s.size : Int)) = true := decide_eq_true (by omega)
          have hset := HI4.out.set ByteArray.empty 2 (Nat.zero_le _)
          have g0 := HI4.out.f0
          have g1 := HI4.out.f1
          obtain ⟨W2, hW2⟩ : ∃ W2, (W1.setCell ⟨b4, 0, none⟩ (.string ⟨#[]⟩)).setCell ⟨b4, 1, none⟩ (.int .i64 2) = W2 := ⟨_, rfl⟩
          replace hset : InAt W2 b4 ByteArray.empty 2 ∧ But b4 W1 W2 := by rw [← hW2]; exact hset
          have HI2 := hid (HI.out.but hset.2 (by have := HB0.out; omega))
          have HI62 := hid (HI6.out.but hset.2 (by have := HB0.out; omega))
          have HI42 := hid hset.1
          have HB2 := hid ((But.keeps (b := b) HK.out).new (by have := HB0.out; omega) hset.2)
          clear hset
          have HPC0 := fun w h => end_any b s 0 w h
          rw [HP.out] at HPC0
          have HPC := hid HPC0
          clear HPC0
          go_upto_region 30 with fail
          have e0 := HI42.out.c0
          have e1 := HI42.out.c1
          clear d0 d1 g0 g1
          try rw [hW2]
          clear hW2
          go_region_with (go_at_call 33; refine (HPC.out _ HI2.out.drew).mono ?_; rintro e w4 ⟨rfl, hi, hb⟩; have HI4b := hid hi; have HB4 := hid hb; have HI44 := hid (HI42.out.drew.but hb (by have := HB0.out; omega)); have HI64 := hid (HI62.out.drew.but hb (by have := HB0.out; omega)); have d0b := HI44.out.c0; have d1b := HI44.out.c1; clear hi hb)
          all_goals go_wp2_with fail
          all_goals go_meet
          all_goals exact ⟨by simp, tk_end2 HB2.out HB4.out HI4b.out HI44.out HI64.out⟩
        · have hse : s = ByteArray.empty := by
            apply ByteArray.ext
            rw [Array.eq_empty_of_size_eq_zero (show s.data.size = 0 from by have h : s.size = s.data.size := rfl; omega)]; rfl
          subst hse
          have HP := hid (show pEnd ByteArray.empty 0 = 0 from if_neg (by decide))
          have HI2 := hid HI.out
          have HI42 := hid HI4.out
          have HI62 := hid HI6.out
          have HB2 := hid (But.keeps (b := b) HK.out)
          clear hs0
          have HPC0 := fun w h => end_any b ByteArray.empty 0 w h
          rw [HP.out] at HPC0
          have HPC := hid HPC0
          clear HPC0
          go_upto_region 30 with fail
          go_region_with (go_at_call 33; refine (HPC.out _ HI2.out.drew).mono ?_; rintro e w4 ⟨rfl, hi, hb⟩; have HI4b := hid hi; have HB4 := hid hb; have HI44 := hid (HI42.out.drew.but hb (by have := HB0.out; omega)); have HI64 := hid (HI62.out.drew.but hb (by have := HB0.out; omega)); have d0b := HI44.out.c0; have d1b := HI44.out.c1; clear hi hb)
          all_goals go_wp2_with fail
          all_goals go_meet
          all_goals exact ⟨by simp, tk_end2 HB2.out HB4.out HI4b.out HI44.out HI64.out⟩
      · have hse := hinv he
        have hne : ((er : Int) == 0) = false := by simp; omega
        subst hse
        have HP := hid (show pEnd ByteArray.empty er = er from if_neg (by decide))
        have HI2 := hid HI.out
        have HI42 := hid HI4.out
        have HI62 := hid HI6.out
        have HB2 := hid (But.keeps (b := b) HK.out)
        have HPC0 := fun w h => end_any b ByteArray.empty er w h
        rw [HP.out] at HPC0
        have HPC := hid HPC0
        clear HPC0
        go_upto_region 30 with fail
        go_region_with (go_at_call 33; refine (HPC.out _ HI2.out.drew).mono ?_; rintro e w4 ⟨rfl, hi, hb⟩; have HI4b := hid hi; have HB4 := hid hb; have HI44 := hid (HI42.out.drew.but hb (by have := HB0.out; omega)); have HI64 := hid (HI62.out.drew.but hb (by have := HB0.out; omega)); have d0b := HI44.out.c0; have d1b := HI44.out.c1; clear hi hb)
        all_goals go_wp2_with fail
        all_goals go_meet
        all_goals exact ⟨by simp, tk_end2 HB2.out HB4.out HI4b.out HI44.out HI64.out⟩
  case rest =>
    obtain ⟨rfl, s1, er1, i1, i4, i6, inv1, hb1⟩ := hcut
    have j0 := i4.c0
    have j1 := i4.c1
    have k0 := i6.c0
    have k1 := i6.c1
    have f0 := i6.f0
    have f1 := i6.f1
    have I1 := hid i1
    have I6 := hid i6
    have I4 := hid i4
    have HINV1 := hid inv1
    have HB1 := hid hb1
    have hn46 : ¬ b4 = b6 := by have := HB0.out; omega
    have hn64 : ¬ b6 = b4 := by have := HB0.out; omega
    clear i1 i4 i6 inv1 hb1 c0 c1 d0 d1 hr hr2
    have hT6 := I6.out.set s1 er1 I1.out.sz
    have HE := hid (show TkOut b w ((wc.setCell ⟨b6, 0, none⟩ (.string s1)).setCell ⟨b6, 1, none⟩ (.int .i64 (er1 : Int))).drew (.tuple #[.agg #[.string s1, .int .i64 (er1 : Int)], .bool true]) from
      ⟨s1, er1, rfl, (I1.out.but hT6.2 (by have := HB0.out; omega)).drew, HINV1.out, (HB1.out.new (by have := HB0.out; omega) hT6.2).trans (But.keeps ((Reg.Keeps.refl _).drewN 1))⟩)
    have HT0 := hid hT6.1.drew.c0
    have HT1 := hid hT6.1.drew.c1
    clear hT6
    go_upto_region 31 with fail
    go_region_with (first
      | (go_at_call 35; refine (err_any b s1 er1 _ I1.out.drew).mono ?_; rintro e w2 ⟨rfl, hw⟩; replace hw := hw.symm; subst hw)
      | (go_at_call 34; refine (left_any b s1 er1 _ I1.out.drew).mono ?_; rintro e w2 ⟨rfl, hw⟩; replace hw := hw.symm; subst hw))
    all_goals go_wp2_with fail
    all_goals have t0 := HT0.out
    all_goals have t1 := HT1.out
    all_goals first
      | exact bodyPost_ret (v := .tuple #[.agg #[.string s1, .int .i64 (er1 : Int)], .bool true]) (by simp [results, Try.results17, go_sem, t0, t1]) rfl HE.out
      | exact bodyPost_ret (v := .tuple #[.agg #[.string s1, .int .i64 (er1 : Int)], .bool true]) (by simp [results, Try.results17, go_sem, t0, t1]; rfl) rfl HE.out
      | exact bodyPost_ret (v := .tuple #[.agg #[.string s1, .int .i64 (er1 : Int)], .bool true]) (by simp [results, Try.results17, go_sem]; exact ⟨t0, t1⟩) rfl HE.out
end Go.Proofs.Ytedhecbcpcmlmaa
