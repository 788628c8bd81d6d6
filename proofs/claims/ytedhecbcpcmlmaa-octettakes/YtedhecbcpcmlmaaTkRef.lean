/-
  Layer 1: the document's taking: contracts.
-/
import Derived.Test.YtedhecbcpcmlmaaTkMath
import Derived.Test.YtedhecbcpcmlmaaIn4
import Derived.Deep.CutBlock
namespace Go.Proofs.Ytedhecbcpcmlmaa
open Go.RowKit

/-- A new In. -/
theorem inAt_new (w : World) (s : ByteArray) (er : Nat) (hs : s.size ≤ maxLen) : InAt (w.alloc (.cells #[.string s, .int .i64 (er : Int)] 28)) w.heap.size s er :=
  ⟨by rw [World.size_alloc]; omega, by rw [World.cell?_alloc_new]; rfl, by rw [World.cell?_alloc_new]; rfl, by simp [World.frozen?_alloc_new], by simp [World.frozen?_alloc_new], hs⟩
theorem rfail_any (k : Nat) (w : World) : Calls Try.prog 62 #[.int .i64 (k : Int)] w fun e w' => e = .returned (.agg #[.string ByteArray.empty, .int .i64 (k : Int)]) ∧ Reg.Keeps w w' := by
  go_enter Try.func62, Try.ntmps62
  go_wp2
  exact bodyPost_ret (v := .agg #[.string ByteArray.empty, .int .i64 (k : Int)]) (by simp [results, Try.results62, go_sem]; rfl) rfl ⟨rfl, (Reg.Keeps.refl w).alloc _⟩
theorem inAt_two (w : World) (s : ByteArray) (er : Nat) (hs : s.size ≤ maxLen) : ∃ W1, (w.alloc (.cells #[.string s, .int .i64 (er : Int)] 28)).alloc (.cells #[.string ⟨#[]⟩, .int .i64 0] 28) = W1 ∧ InAt W1 w.heap.size s er ∧ InAt W1 (w.heap.size + 1) ByteArray.empty 0 ∧ Reg.Keeps w W1 := by
  have h1 := inAt_new w s er hs
  have h2 := inAt_new (w.alloc (.cells #[.string s, .int .i64 (er : Int)] 28)) ByteArray.empty 0 (Nat.zero_le _)
  rw [show (w.alloc (.cells #[.string s, .int .i64 (er : Int)] 28)).heap.size = w.heap.size + 1 from by simp] at h2
  exact ⟨_, rfl, h1.keeps ((Reg.Keeps.refl _).alloc _), h2, ((Reg.Keeps.refl w).alloc _).alloc _⟩
/-- How the document's taking ends. -/
def RefEnd (s : ByteArray) (er : Nat) (v : Value) (w : World) (e : Ending) (w' : World) : Prop :=
  e = .returned (.tuple #[.agg #[.string s, .int .i64 (er : Int)], v]) ∧ Reg.Keeps w w'
/-- A store of an In into a box. -/
theorem InAt.set {w : World} {b : Nat} {s : ByteArray} {er : Nat} (h : InAt w b s er) (s' : ByteArray) (er' : Nat) (hs : s'.size ≤ maxLen) : InAt ((w.setCell ⟨b, 0, none⟩ (.string s')).setCell ⟨b, 1, none⟩ (.int .i64 (er' : Int))) b s' er' ∧ But b w ((w.setCell ⟨b, 0, none⟩ (.string s')).setCell ⟨b, 1, none⟩ (.int .i64 (er' : Int))) :=
  ⟨(h.set0 s' hs).set1 er', (But.set b w 0 _).trans (But.set b _ 1 _)⟩
theorem But.keeps0 {b : Nat} {w w1 w2 : World} (h : Reg.Keeps w w1) (hb : But b w1 w2) (hl : w.heap.size ≤ b) : Reg.Keeps w w2 := Below.trans h (hb.below hl h.size)

set_option maxRecDepth 20000 in
set_option maxHeartbeats 4000000 in
theorem rbytes_any (s : ByteArray) (er : Nat) (n : Int) (w : World) (hs : s.size ≤ maxLen) (hinv : er ≠ 0 → s = ByteArray.empty) :
    Calls Try.prog 51 #[.agg #[.string s, .int .i64 (er : Int)], .int .i64 n] w (RefEnd (pBytes s er n).2.1 (pBytes s er n).2.2 (.string (pBytes s er n).1) w) := by
  obtain ⟨W1, hW1, hI2, hI4, hk1⟩ := inAt_two w s er hs
  obtain ⟨b2, hb2⟩ : ∃ b2, w.heap.size = b2 := ⟨_, rfl⟩
  rw [hb2] at hI2 hI4
  obtain ⟨b4, hb4⟩ : ∃ b4, b2 + 1 = b4 := ⟨_, rfl⟩
  rw [hb4] at hI4
  have c0 := hI2.c0
  have c1 := hI2.c1
  have d0 := hI4.c0
  have d1 := hI4.c1
  have g0 := hI4.f0
  have g1 := hI4.f1
  have HI4 := hid hI4
  have HK := hid hk1
  clear hI2 hI4 hk1
  go_enter Try.func51, Try.ntmps51
  go_upto_region 1 with fail
  try rw [hb2]
  try rw [hb4]
  try rw [hW1]
  clear hW1
  by_cases he : er = 0
  · subst he
    by_cases hn : n < 1
    · have HP := hid (show pBytes s 0 n = (ByteArray.empty, s, 0) from if_pos hn)
      have hn0 : n ≤ 0 := by omega
      have hn1 : decide (n ≤ 0) = true := decide_eq_true hn0
      have HT := hid (HI4.out.set (s) 0 (hs))
      go_wp2_with fail
      refine bodyPost_ret (v := .tuple #[.agg #[.string (s), .int .i64 0], .string ByteArray.empty]) (by have t0 : (((W1.setCell ⟨b4, 0, none⟩ (.string (s))).setCell ⟨b4, 1, none⟩ (.int .i64 0))).cell? ⟨b4, 0, none⟩ = some (.string (s)) := HT.out.1.c0; have t1 : (((W1.setCell ⟨b4, 0, none⟩ (.string (s))).setCell ⟨b4, 1, none⟩ (.int .i64 0))).cell? ⟨b4, 1, none⟩ = some (.int .i64 0) := HT.out.1.c1; simp [results, Try.results51, go_sem, t0, t1]; try rfl) rfl ?_
      rw [HP.out]
      exact ⟨rfl, But.keeps0 HK.out HT.out.2 (by omega)⟩
    · have hn1 : decide (n ≤ 0) = false := decide_eq_false (by omega)
      by_cases hl : (s.size : Int) < n
      · have HP := hid (show pBytes s 0 n = (ByteArray.empty, ByteArray.empty, 1) from by unfold pBytes; rw [if_neg hn, if_pos hl]; rfl)
        have hF := hid (rfail_any 1 W1)
        go_wp2_with fail
        refine hF.out.mono ?_
        rintro e w2 ⟨rfl, hk2⟩
        have HI42 := hid (HI4.out.keeps hk2)
        have HK2 := hid (Reg.Keeps.trans HK.out hk2)
        have d0 := HI42.out.c0
        have d1 := HI42.out.c1
        have g0 := HI42.out.f0
        have g1 := HI42.out.f1
        clear hk2 hF
        have HT := hid (HI42.out.set (ByteArray.empty) 1 (Nat.zero_le _))
        go_wp2_with fail
        refine bodyPost_ret (v := .tuple #[.agg #[.string (ByteArray.empty), .int .i64 1], .string ByteArray.empty]) (by have t0 : (((w2.setCell ⟨b4, 0, none⟩ (.string (ByteArray.empty))).setCell ⟨b4, 1, none⟩ (.int .i64 1))).cell? ⟨b4, 0, none⟩ = some (.string (ByteArray.empty)) := HT.out.1.c0; have t1 : (((w2.setCell ⟨b4, 0, none⟩ (.string (ByteArray.empty))).setCell ⟨b4, 1, none⟩ (.int .i64 1))).cell? ⟨b4, 1, none⟩ = some (.int .i64 1) := HT.out.1.c1; simp [results, Try.results51, go_sem, t0, t1]; try rfl) rfl ?_
        rw [HP.out]
        exact ⟨rfl, But.keeps0 HK2.out HT.out.2 (by omega)⟩
      · obtain ⟨m, rfl⟩ : ∃ m : Nat, n = (m : Int) := ⟨n.toNat, by omega⟩
        have hm : m ≤ s.size := by omega
        have HP := hid (show pBytes s 0 (m : Int) = (s.extract 0 m, s.extract m s.size, 0) from by unfold pBytes; rw [if_neg hn, if_neg hl]; rfl)
        have HT := hid (HI4.out.set (s.extract m s.size) 0 (by simp; omega))
        go_upto_region 5 with fail
        go_region
        go_wp2_with fail
        refine bodyPost_ret (v := .tuple #[.agg #[.string (s.extract m s.size), .int .i64 0], .string (s.extract 0 m)]) (by have t0 : (((W1.setCell ⟨b4, 0, none⟩ (.string (s.extract m s.size))).setCell ⟨b4, 1, none⟩ (.int .i64 0))).drew.cell? ⟨b4, 0, none⟩ = some (.string (s.extract m s.size)) := HT.out.1.c0; have t1 : (((W1.setCell ⟨b4, 0, none⟩ (.string (s.extract m s.size))).setCell ⟨b4, 1, none⟩ (.int .i64 0))).drew.cell? ⟨b4, 1, none⟩ = some (.int .i64 0) := HT.out.1.c1; simp [results, Try.results51, go_sem, t0, t1]) rfl ?_
        rw [HP.out]
        exact ⟨rfl, (But.keeps0 HK.out HT.out.2 (by omega)).drewN 1⟩
  · have hs0 := hinv he
    subst hs0
    have hne : ((er : Int) != 0) = true := by simp; omega
    have HP := hid (show pBytes ByteArray.empty er n = (ByteArray.empty, ByteArray.empty, er) from by
      unfold pBytes
      by_cases hn : n < 1
      · rw [if_pos hn]
      · rw [if_neg hn, if_pos (by show (0 : Int) < n; omega), eOr_ne 1 he])
    have HT := hid (HI4.out.set (ByteArray.empty) er (Nat.zero_le _))
    go_wp2_with fail
    refine bodyPost_ret (v := .tuple #[.agg #[.string (ByteArray.empty), .int .i64 (er : Int)], .string ByteArray.empty]) (by have t0 : (((W1.setCell ⟨b4, 0, none⟩ (.string (ByteArray.empty))).setCell ⟨b4, 1, none⟩ (.int .i64 (er : Int)))).cell? ⟨b4, 0, none⟩ = some (.string (ByteArray.empty)) := HT.out.1.c0; have t1 : (((W1.setCell ⟨b4, 0, none⟩ (.string (ByteArray.empty))).setCell ⟨b4, 1, none⟩ (.int .i64 (er : Int)))).cell? ⟨b4, 1, none⟩ = some (.int .i64 (er : Int)) := HT.out.1.c1; simp [results, Try.results51, go_sem, t0, t1]; try rfl) rfl ?_
    rw [HP.out]
    exact ⟨rfl, But.keeps0 HK.out HT.out.2 (by omega)⟩

theorem getD_byte (s : ByteArray) (k : Nat) (h : k < s.size) : s.data.toList.getD k 0 = s[k] := by
  have hl : k < s.data.toList.length := by simpa using h
  rw [List.getD_eq_getElem?_getD, List.getElem?_eq_getElem hl, Option.getD_some, Array.getElem_toList]
  rfl
theorem dig_drop (s : ByteArray) (k j : Nat) (hk : k < s.size) (hj : j ≤ k) : dig ((s.data.toList.take (k + 1)).drop j) = s[j].toNat % 128 + 128 * dig ((s.data.toList.take (k + 1)).drop (j + 1)) := by
  have hl : j < (s.data.toList.take (k + 1)).length := by rw [List.length_take]; simp; omega
  rw [List.drop_eq_getElem_cons hl, List.getElem_take, Array.getElem_toList]
  rfl
theorem dig_le : ∀ (l : List UInt8) (j : Nat), dig (l.drop j) ≤ dig l
  | l, 0 => Nat.le_refl _
  | [], j + 1 => Nat.le_refl _
  | c :: l, j + 1 => by
    have := dig_le l j
    simp only [List.drop_succ_cons, dig]
    omega

set_option maxRecDepth 20000 in
set_option maxHeartbeats 8000000 in
theorem rnumber_any (s : ByteArray) (er : Nat) (most : Nat) (w : World) (hs : s.size ≤ maxLen) (hinv : er ≠ 0 → s = ByteArray.empty) :
    Calls Try.prog 48 #[.agg #[.string s, .int .i64 (er : Int)], .int .u64 (most : Int)] w (RefEnd (pNum s er most).2.1 (pNum s er most).2.2 (.int .u64 ((pNum s er most).1 : Int)) w) := by
  obtain ⟨W1, hW1, hI2, hI4, hk1⟩ := inAt_two w s er hs
  obtain ⟨b2, hb2⟩ : ∃ b2, w.heap.size = b2 := ⟨_, rfl⟩
  rw [hb2] at hI2 hI4
  obtain ⟨b4, hb4⟩ : ∃ b4, b2 + 1 = b4 := ⟨_, rfl⟩
  rw [hb4] at hI4
  have c0 := hI2.c0
  have c1 := hI2.c1
  have d0 := hI4.c0
  have d1 := hI4.c1
  have g0 := hI4.f0
  have g1 := hI4.f1
  have HI4 := hid hI4
  have HK := hid hk1
  clear hI2 hI4 hk1
  go_enter Try.func48, Try.ntmps48
  go_upto_region 1 with fail
  try rw [hb2]
  try rw [hb4]
  try rw [hW1]
  clear hW1
  by_cases he : er = 0
  · subst he
    have hz : s.size ≤ 9223372036854775807 := by unfold maxLen at hs; exact hs
    go_upto_block 0 with fail
    go_cut [6] from 9 (fun s6 wx => ∃ k : Nat, s6 = .int .i64 (k : Int) ∧ wx = W1 ∧ Hid (lead 0 s.data.toList = k ∧ k ≤ 9 ∧ k ≤ s.size))
    case first =>
      go_wp2_with fail
      go_loopw [6] (fun s6 wr => ∃ k : Nat, s6 = .int .i64 (k : Int) ∧ wr = W1 ∧ k ≤ 9 ∧ k ≤ s.size ∧ Hid (lead 0 s.data.toList = lead k (s.data.toList.drop k))) (fun s6 _ => 9 - (intOf s6).toNat)
      case atStart => exact ⟨0, rfl, rfl, by omega, by omega, hid rfl⟩
      case round =>
        obtain ⟨k, rfl, hwr, hk9, hks, HL⟩ := hrel
        subst hwr
        by_cases hlt : k < s.size
        · have hc : s[k].toNat < 256 := s[k].toNat_lt
          by_cases h9 : k < 9
          · by_cases h8 : 128 ≤ s[k].toNat
            · have HL2 := hid (HL.out.trans (by rw [drop_cons s k hlt, lead_go ⟨h9, h8⟩]))
              go_wp2_with fail
              go_roundw
              case rel => (repeat apply Exists.intro); exact ⟨⟨k + 1, by push_cast; rfl, by first | rfl | trivial, by omega, by omega, HL2⟩, rfl⟩
              case measure => simp [intOf]; omega
            · have HL2 := hid (show lead 0 s.data.toList = k from HL.out.trans (by rw [drop_cons s k hlt, lead_stop (by omega)]))
              go_wp2_with fail
              go_meet
              case rel => exact ⟨k, rfl, rfl, hid ⟨HL2.out, hk9, hks⟩⟩
          · have HL2 := hid (show lead 0 s.data.toList = k from HL.out.trans (by rw [drop_cons s k hlt, lead_stop (by omega)]))
            go_wp2_with fail
            go_meet
            case rel => exact ⟨k, rfl, rfl, hid ⟨HL2.out, hk9, hks⟩⟩
        · have hkk : k = s.size := by omega
          have HL2 := hid (show lead 0 s.data.toList = k from HL.out.trans (by rw [List.drop_of_length_le (by simp; omega)]; rfl))
          go_wp2_with fail
          go_meet
          case rel => exact ⟨k, rfl, rfl, hid ⟨HL2.out, hk9, hks⟩⟩
    case rest =>
      obtain ⟨k, rfl, hwc, HL⟩ := hcut
      subst hwc
      obtain ⟨hl0, hk9, hks⟩ := HL.out
      have HN := hid (show first 0 0 s.data.toList = numK 0 0 s.data.toList from first_numK _ 0 0 (by omega))
      by_cases h1 : k = s.size
      · have HP := hid (show pNum s 0 most = (0, ByteArray.empty, 1) from by
          have e : first 0 0 s.data.toList = (0, 0, 1) := by rw [HN.out]; unfold numK; rw [hl0, if_pos (by simp; exact h1)]
          unfold pNum
          rw [e]; rfl)
        have hq : ((k : Int) == (s.size : Int)) = true := by simp; omega
        clear hl0 HN HL
        have hF := hid (rfail_any 1 wc)
        go_wp2_with fail
        refine hF.out.mono ?_
        rintro e w2 ⟨rfl, hk2⟩
        have HI42 := hid (HI4.out.keeps hk2)
        have HK2 := hid (Reg.Keeps.trans HK.out hk2)
        have d0 := HI42.out.c0
        have d1 := HI42.out.c1
        have g0 := HI42.out.f0
        have g1 := HI42.out.f1
        clear hk2 hF
        have HT := hid (HI42.out.set (ByteArray.empty) 1 (Nat.zero_le _))
        go_wp2_with fail
        refine bodyPost_ret (v := .tuple #[.agg #[.string (ByteArray.empty), .int .i64 1], .int .u64 0]) (by have t0 : (((w2.setCell ⟨b4, 0, none⟩ (.string (ByteArray.empty))).setCell ⟨b4, 1, none⟩ (.int .i64 1))).cell? ⟨b4, 0, none⟩ = some (.string (ByteArray.empty)) := HT.out.1.c0; have t1 : (((w2.setCell ⟨b4, 0, none⟩ (.string (ByteArray.empty))).setCell ⟨b4, 1, none⟩ (.int .i64 1))).cell? ⟨b4, 1, none⟩ = some (.int .i64 1) := HT.out.1.c1; simp [results, Try.results48, go_sem, t0, t1]; try rfl) rfl ?_
        rw [HP.out]
        exact ⟨rfl, But.keeps0 HK2.out HT.out.2 (by omega)⟩
      · have hlt : k < s.size := by omega
        have hg := getD_byte s k hlt
        have hc : s[k].toNat < 256 := s[k].toNat_lt
        have hq : ((k : Int) == (s.size : Int)) = false := by simp; omega
        by_cases h2 : k = 9 ∧ 1 < s[k].toNat
        · have HP := hid (show pNum s 0 most = (0, ByteArray.empty, 2) from by
            have e : first 0 0 s.data.toList = (0, 0, 2) := by rw [HN.out]; unfold numK; rw [hl0, if_neg (by simp; omega), Nat.sub_zero, hg, if_pos h2]
            unfold pNum
            rw [e]; rfl)
          obtain ⟨rfl, h2⟩ := h2
          clear hl0 HN HL hg
          have hF := hid (rfail_any 2 wc)
          go_wp2_with fail
          refine hF.out.mono ?_
          rintro e w2 ⟨rfl, hk2⟩
          have HI42 := hid (HI4.out.keeps hk2)
          have HK2 := hid (Reg.Keeps.trans HK.out hk2)
          have d0 := HI42.out.c0
          have d1 := HI42.out.c1
          have g0 := HI42.out.f0
          have g1 := HI42.out.f1
          clear hk2 hF
          have HT := hid (HI42.out.set (ByteArray.empty) 2 (Nat.zero_le _))
          go_wp2_with fail
          refine bodyPost_ret (v := .tuple #[.agg #[.string (ByteArray.empty), .int .i64 2], .int .u64 0]) (by have t0 : (((w2.setCell ⟨b4, 0, none⟩ (.string (ByteArray.empty))).setCell ⟨b4, 1, none⟩ (.int .i64 2))).cell? ⟨b4, 0, none⟩ = some (.string (ByteArray.empty)) := HT.out.1.c0; have t1 : (((w2.setCell ⟨b4, 0, none⟩ (.string (ByteArray.empty))).setCell ⟨b4, 1, none⟩ (.int .i64 2))).cell? ⟨b4, 1, none⟩ = some (.int .i64 2) := HT.out.1.c1; simp [results, Try.results48, go_sem, t0, t1]; try rfl) rfl ?_
          rw [HP.out]
          exact ⟨rfl, But.keeps0 HK2.out HT.out.2 (by omega)⟩
        · go_upto_region 8 with fail
          go_cut [44] from 9 (fun s44 wx => s44 = .bool false ∧ wx = wc)
          case first =>
            by_cases h9 : k = 9
            · subst h9
              have h8 : decide (1 < s[9].toNat) = false := decide_eq_false (by omega)
              have h8b : decide ((1 : Int) < (s[9].toNat : Int)) = false := decide_eq_false (by omega)
              go_wp2_with fail
              go_meet
              case rel => exact ⟨rfl, rfl⟩
            · have h8 : ((k : Int) == 9) = false := by simp; omega
              go_wp2_with fail
              go_meet
              case rel => exact ⟨rfl, rfl⟩
          case rest =>
            rename_i wd
            obtain ⟨rfl, hwd⟩ := hcut
            subst hwd
            by_cases h3 : 0 < k ∧ s[k].toNat = 0
            · have HP := hid (show pNum s 0 most = (0, ByteArray.empty, 2) from by
                have e : first 0 0 s.data.toList = (0, 0, 2) := by rw [HN.out]; unfold numK; rw [hl0, if_neg (by simp; omega), Nat.sub_zero, hg, if_neg h2, if_pos h3]
                unfold pNum
                rw [e]; rfl)
              obtain ⟨h3, h4⟩ := h3
              have h5 : decide (0 < (k : Int)) = true := decide_eq_true (by omega)
              clear hl0 HN HL hg
              have hF := hid (rfail_any 2 wc)
              go_wp2_with fail
              refine hF.out.mono ?_
              rintro e w2 ⟨rfl, hk2⟩
              have HI42 := hid (HI4.out.keeps hk2)
              have HK2 := hid (Reg.Keeps.trans HK.out hk2)
              have d0 := HI42.out.c0
              have d1 := HI42.out.c1
              have g0 := HI42.out.f0
              have g1 := HI42.out.f1
              clear hk2 hF
              have HT := hid (HI42.out.set (ByteArray.empty) 2 (Nat.zero_le _))
              go_wp2_with fail
              refine bodyPost_ret (v := .tuple #[.agg #[.string (ByteArray.empty), .int .i64 2], .int .u64 0]) (by have t0 : (((w2.setCell ⟨b4, 0, none⟩ (.string (ByteArray.empty))).setCell ⟨b4, 1, none⟩ (.int .i64 2))).cell? ⟨b4, 0, none⟩ = some (.string (ByteArray.empty)) := HT.out.1.c0; have t1 : (((w2.setCell ⟨b4, 0, none⟩ (.string (ByteArray.empty))).setCell ⟨b4, 1, none⟩ (.int .i64 2))).cell? ⟨b4, 1, none⟩ = some (.int .i64 2) := HT.out.1.c1; simp [results, Try.results48, go_sem, t0, t1]; try rfl) rfl ?_
              rw [HP.out]
              exact ⟨rfl, But.keeps0 HK2.out HT.out.2 (by omega)⟩
            · obtain ⟨N, hN⟩ : ∃ N, dig (s.data.toList.take (k + 1)) = N := ⟨_, rfl⟩
              have e : first 0 0 s.data.toList = (N, k + 1, 0) := by
                rw [HN.out]; unfold numK; rw [hl0, if_neg (by simp; omega), Nat.sub_zero, hg, if_neg h2, if_neg h3, hN]; simp
              have hN64 : N < 18446744073709551616 := by have := first_lt s.data.toList 0 0 (by omega) (by simp); rw [e] at this; exact this
              have HD := hid (fun j => (show dig ((s.data.toList.take (k + 1)).drop j) ≤ N from by rw [← hN]; exact dig_le _ j))
              have HE := hid e
              have HDD := hid (fun j (hj : j ≤ k) => dig_drop s k j hlt hj)
              have HNE := hid hN
              clear hl0 HN HL hg e hN
              go_upto_region 10 with fail
              go_cut [54] from 9 (fun s54 wx => s54 = .bool false ∧ wx = wc)
              case first =>
                by_cases h9 : k = 0
                · have h8 : decide (0 < (k : Int)) = false := decide_eq_false (by omega)
                  go_wp2_with fail
                  go_meet
                  case rel => exact ⟨rfl, rfl⟩
                · have h8 : decide (0 < (k : Int)) = true := decide_eq_true (by omega)
                  have h8a : ((s[k].toNat : Int) == 0) = false := by simp; omega
                  have h8b : (s[k].toNat == 0) = false := by simp; omega
                  go_wp2_with fail
                  go_meet
                  case rel => exact ⟨rfl, rfl⟩
              case rest =>
                rename_i we
                obtain ⟨rfl, hwe⟩ := hcut
                subst hwe
                go_wp2_with fail
                go_loopw [7, 8] (fun s7 s8 wr => ∃ j n : Nat, j ≤ k + 1 ∧ s8 = .int .i64 ((j : Int) - 1) ∧ s7 = .int .u64 (n : Int) ∧ wr = wc ∧ Hid (n = dig ((s.data.toList.take (k + 1)).drop j))) (fun _ s8 _ => (intOf s8 + 1).toNat)
                case atStart => exact ⟨k + 1, 0, Nat.le_refl _, by congr 1; omega, rfl, rfl, hid (by rw [List.drop_of_length_le (by simp; omega)]; rfl)⟩
                case round =>
                  obtain ⟨j, n, hj, rfl, rfl, hwr, HJ⟩ := hrel
                  subst hwr
                  have hnN := HD.out j
                  rw [← HJ.out] at hnN
                  cases j with
                  | zero =>
                    have hnN2 : n = N := by have h := HJ.out; rw [List.drop_zero, HNE.out] at h; exact h
                    subst hnN2
                    rw [show ((0 : Nat) : Int) - 1 = -1 from rfl]
                    clear HJ HDD HD
                    by_cases hm : most < n
                    · have HP := hid (show pNum s 0 most = (0, ByteArray.empty, 3) from by unfold pNum; rw [HE.out, if_neg (by simp), if_pos hm]; rfl)
                      have hm1 : decide (most < n) = true := decide_eq_true hm
                      have hm2 : decide ((most : Int) < (n : Int)) = true := decide_eq_true (by omega)
                      have hF := hid (rfail_any 3 wr)
                      go_wp2_with fail
                      refine hF.out.mono ?_
                      rintro e w2 ⟨rfl, hk2⟩
                      have HI42 := hid (HI4.out.keeps hk2)
                      have HK2 := hid (Reg.Keeps.trans HK.out hk2)
                      have d0 := HI42.out.c0
                      have d1 := HI42.out.c1
                      have g0 := HI42.out.f0
                      have g1 := HI42.out.f1
                      clear hk2 hF
                      have HT := hid (HI42.out.set (ByteArray.empty) 3 (Nat.zero_le _))
                      go_wp2_with fail
                      refine bodyPost_ret (v := .tuple #[.agg #[.string (ByteArray.empty), .int .i64 3], .int .u64 0]) (by have t0 : (((w2.setCell ⟨b4, 0, none⟩ (.string (ByteArray.empty))).setCell ⟨b4, 1, none⟩ (.int .i64 3))).cell? ⟨b4, 0, none⟩ = some (.string (ByteArray.empty)) := HT.out.1.c0; have t1 : (((w2.setCell ⟨b4, 0, none⟩ (.string (ByteArray.empty))).setCell ⟨b4, 1, none⟩ (.int .i64 3))).cell? ⟨b4, 1, none⟩ = some (.int .i64 3) := HT.out.1.c1; simp [results, Try.results48, go_sem, t0, t1]; try rfl) rfl ?_
                      rw [HP.out]
                      exact ⟨rfl, But.keeps0 HK2.out HT.out.2 (by omega)⟩
                    · have HP := hid (show pNum s 0 most = (n, s.extract (k + 1) s.size, 0) from by unfold pNum; rw [HE.out, if_neg (by simp), if_neg hm])
                      have hm1 : decide (most < n) = false := decide_eq_false hm
                      have hm2 : decide ((most : Int) < (n : Int)) = false := decide_eq_false (by omega)
                      have hks2 : k + 1 ≤ s.size := by omega
                      have HT := hid (HI4.out.set (s.extract (k + 1) s.size) 0 (by simp; omega))
                      go_wp2_with fail
                      refine bodyPost_ret (v := .tuple #[.agg #[.string (s.extract (k + 1) s.size), .int .i64 0], .int .u64 (n : Int)]) (by have t0 : (((wr.setCell ⟨b4, 0, none⟩ (.string (s.extract (k + 1) s.size))).setCell ⟨b4, 1, none⟩ (.int .i64 0))).cell? ⟨b4, 0, none⟩ = some (.string (s.extract (k + 1) s.size)) := HT.out.1.c0; have t1 : (((wr.setCell ⟨b4, 0, none⟩ (.string (s.extract (k + 1) s.size))).setCell ⟨b4, 1, none⟩ (.int .i64 0))).cell? ⟨b4, 1, none⟩ = some (.int .i64 0) := HT.out.1.c1; simp [results, Try.results48, go_sem, t0, t1]; try rfl) rfl ?_
                      rw [HP.out]
                      exact ⟨rfl, But.keeps0 HK.out HT.out.2 (by omega)⟩
                  | succ m =>
                    have hms : m < s.size := by omega
                    have hc2 : s[m].toNat < 256 := s[m].toNat_lt
                    have hmk : ((m + 1 : Nat) : Int) - 1 = (m : Int) := by omega
                    have hn2 : n * 128 + s[m].toNat % 128 ≤ N := by have h := HD.out m; rw [HDD.out m (by omega), ← HJ.out] at h; omega
                    have HJ2 := hid (show n * 128 + s[m].toNat % 128 = dig ((s.data.toList.take (k + 1)).drop m) from by rw [HDD.out m (by omega), ← HJ.out]; omega)
                    rw [hmk]
                    have hmd : decide ((0 : Int) ≤ (m : Int)) = true := decide_eq_true (by omega)
                    go_wp2_with fail
                    exact ⟨⟨m, n * 128 + s[m].toNat % 128, by omega, rfl, by push_cast; rfl, by first | rfl | trivial, HJ2⟩, by simp [intOf]⟩
  · have hs0 := hinv he
    subst hs0
    have hne : ((er : Int) != 0) = true := by simp; omega
    have HP := hid (show pNum ByteArray.empty er most = (0, ByteArray.empty, er) from by
      unfold pNum
      rw [if_pos (by simp [first])]
      exact congrArg (fun x => (0, ByteArray.empty, x)) (eOr_ne 1 he))
    have HT := hid (HI4.out.set (ByteArray.empty) er (Nat.zero_le _))
    go_wp2_with fail
    refine bodyPost_ret (v := .tuple #[.agg #[.string (ByteArray.empty), .int .i64 (er : Int)], .int .u64 0]) (by have t0 : (((W1.setCell ⟨b4, 0, none⟩ (.string (ByteArray.empty))).setCell ⟨b4, 1, none⟩ (.int .i64 (er : Int)))).cell? ⟨b4, 0, none⟩ = some (.string (ByteArray.empty)) := HT.out.1.c0; have t1 : (((W1.setCell ⟨b4, 0, none⟩ (.string (ByteArray.empty))).setCell ⟨b4, 1, none⟩ (.int .i64 (er : Int)))).cell? ⟨b4, 1, none⟩ = some (.int .i64 (er : Int)) := HT.out.1.c1; simp [results, Try.results48, go_sem, t0, t1]; try rfl) rfl ?_
    rw [HP.out]
    exact ⟨rfl, But.keeps0 HK.out HT.out.2 (by omega)⟩

theorem pNum_ends0 (s : ByteArray) (most : Nat) : ((pNum s 0 most).2.2 ≠ 0 ∧ (pNum s 0 most).2.1 = ByteArray.empty) ∨ (pNum s 0 most).2.2 = 0 := by
  unfold pNum
  split
  · rename_i h; exact .inl ⟨h, rfl⟩
  · split
    · exact .inl ⟨by show (3 : Nat) ≠ 0; decide, rfl⟩
    · exact .inr rfl
/-- What is left behind a number. -/
theorem pNum_size (s : ByteArray) (er most : Nat) (hs : s.size ≤ maxLen) : (pNum s er most).2.1.size ≤ maxLen := by
  unfold pNum
  split
  · exact Nat.zero_le _
  · split
    · exact Nat.zero_le _
    · show (s.extract _ s.size).size ≤ _
      simp; omega
theorem pNum_inv (s : ByteArray) (er most : Nat) (h : er ≠ 0 → s = ByteArray.empty) : (pNum s er most).2.2 ≠ 0 → (pNum s er most).2.1 = ByteArray.empty := by
  intro h0
  by_cases he : er = 0
  · subst he
    rcases pNum_ends0 s most with ⟨_, h1⟩ | h1
    · exact h1
    · exact absurd h1 h0
  · have := h he
    subst this
    unfold pNum
    rw [if_pos (by simp [first])]
theorem pBytes_size2 (s : ByteArray) (er : Nat) (n : Int) (hs : s.size ≤ maxLen) : (pBytes s er n).2.1.size ≤ maxLen := by
  unfold pBytes
  split
  · exact hs
  · split
    · exact Nat.zero_le _
    · show (s.extract _ s.size).size ≤ _
      simp; omega
theorem pNum_le (s : ByteArray) (er most : Nat) : (pNum s er most).1 ≤ most := by
  unfold pNum
  split
  · exact Nat.zero_le _
  · split
    · exact Nat.zero_le _
    · rename_i h; exact Nat.not_lt.1 h

set_option maxRecDepth 20000 in
set_option maxHeartbeats 4000000 in
theorem rtext_any (s : ByteArray) (er : Nat) (m : Int) (w : World) (hs : s.size ≤ maxLen) (hinv : er ≠ 0 → s = ByteArray.empty) (h1 : m ≤ 9223372036854775807) :
    Calls Try.prog 50 #[.agg #[.string s, .int .i64 (er : Int)], .int .i64 m] w (RefEnd (pStr s er m.toNat).2.1 (pStr s er m.toNat).2.2 (.string (pStr s er m.toNat).1) w) := by
  have hq0 := rnumber_any s er m.toNat
  have HSZ := hid (pNum_size s er m.toNat hs)
  have HINV := hid (pNum_inv s er m.toNat hinv)
  have HLE := hid (pNum_le s er m.toNat)
  unfold pStr
  generalize pNum s er m.toNat = p at *
  obtain ⟨n, s', er'⟩ := p
  dsimp only at *
  have HB := hid (fun w => rbytes_any s' er' (n : Int) w HSZ.out HINV.out)
  have HRS := hid (pBytes_size2 s' er' (n : Int) HSZ.out)
  generalize pBytes s' er' (n : Int) = q at *
  obtain ⟨r, s2, er2⟩ := q
  dsimp only at *
  have HN := hid (fun w => hq0 w hs hinv)
  clear hq0
  obtain ⟨W1, hW1, hI2, hI4, hk1⟩ := inAt_two w s er hs
  obtain ⟨b2, hb2⟩ : ∃ b2, w.heap.size = b2 := ⟨_, rfl⟩
  rw [hb2] at hI2 hI4
  obtain ⟨b4, hb4⟩ : ∃ b4, b2 + 1 = b4 := ⟨_, rfl⟩
  rw [hb4] at hI4
  have c0 := hI2.c0
  have c1 := hI2.c1
  have d0 := hI4.c0
  have d1 := hI4.c1
  have g0 := hI4.f0
  have g1 := hI4.f1
  have HI4 := hid hI4
  have HK := hid hk1
  clear hI2 hI4 hk1
  go_enter Try.func50, Try.ntmps50
  go_upto_region 1 with fail
  try rw [hb2]
  try rw [hb4]
  try rw [hW1]
  clear hW1
  by_cases hm : m < 0
  · have hmt : m.toNat = 0 := by omega
    rw [hmt] at HN HLE
    have hmx : max m 0 = 0 := by omega
    clear hmt
    go_wp2_with fail
    refine (HN.out W1).mono ?_
    rintro e w2 ⟨rfl, hk2⟩
    obtain ⟨w3, hw3⟩ : ∃ w3, w2.alloc (.cells #[.string s', .int .i64 (er' : Int)] 28) = w3 := ⟨_, rfl⟩
    have hk3 : Reg.Keeps w2 w3 := by rw [← hw3]; exact (Reg.Keeps.refl _).alloc _
    have HI43 := hid ((HI4.out.keeps hk2).keeps hk3)
    have HK3 := hid (Reg.Keeps.trans (Reg.Keeps.trans HK.out hk2) hk3)
    have HX := hid (show InAt w3 w2.heap.size s' er' from by rw [← hw3]; exact inAt_new w2 s' er' HSZ.out)
    clear hk2 hk3 c0 c1 d0 d1 g0 g1
    go_upto_region 2 with fail
    try rw [hw3]
    clear hw3
    have x0 := HX.out.c0
    have x1 := HX.out.c1
    have hwn : wrap64 (n : Int) = (n : Int) := by have := HLE.out; unfold wrap64; omega
    go_wp2_with fail
    refine (HB.out w3).mono ?_
    rintro e w4 ⟨rfl, hk4⟩
    have HI44 := hid (HI43.out.keeps hk4)
    have HK4 := hid (Reg.Keeps.trans HK3.out hk4)
    clear hk4
    have d0 := HI44.out.c0
    have d1 := HI44.out.c1
    have g0 := HI44.out.f0
    have g1 := HI44.out.f1
    have HT := hid (HI44.out.set (s2) er2 (HRS.out))
    go_wp2_with fail
    refine bodyPost_ret (v := .tuple #[.agg #[.string (s2), .int .i64 (er2 : Int)], .string r]) (by have t0 : (((w4.setCell ⟨b4, 0, none⟩ (.string (s2))).setCell ⟨b4, 1, none⟩ (.int .i64 (er2 : Int)))).cell? ⟨b4, 0, none⟩ = some (.string (s2)) := HT.out.1.c0; have t1 : (((w4.setCell ⟨b4, 0, none⟩ (.string (s2))).setCell ⟨b4, 1, none⟩ (.int .i64 (er2 : Int)))).cell? ⟨b4, 1, none⟩ = some (.int .i64 (er2 : Int)) := HT.out.1.c1; simp [results, Try.results50, go_sem, t0, t1]; try rfl) rfl ?_

    exact ⟨rfl, But.keeps0 HK4.out HT.out.2 (by omega)⟩
  · obtain ⟨k, rfl⟩ := Int.eq_ofNat_of_zero_le (show 0 ≤ m by omega)
    rw [Int.toNat_natCast] at HN HLE
    have hmx : max (k : Int) 0 = (k : Int) := by omega
    have hwr : IntKind.u64.wrap (k : Int) = (k : Int) := by simp [IntKind.wrap, IntKind.signed, IntKind.bits]; omega
    go_wp2_with fail
    refine (HN.out W1).mono ?_
    rintro e w2 ⟨rfl, hk2⟩
    obtain ⟨w3, hw3⟩ : ∃ w3, w2.alloc (.cells #[.string s', .int .i64 (er' : Int)] 28) = w3 := ⟨_, rfl⟩
    have hk3 : Reg.Keeps w2 w3 := by rw [← hw3]; exact (Reg.Keeps.refl _).alloc _
    have HI43 := hid ((HI4.out.keeps hk2).keeps hk3)
    have HK3 := hid (Reg.Keeps.trans (Reg.Keeps.trans HK.out hk2) hk3)
    have HX := hid (show InAt w3 w2.heap.size s' er' from by rw [← hw3]; exact inAt_new w2 s' er' HSZ.out)
    clear hk2 hk3 c0 c1 d0 d1 g0 g1
    go_upto_region 2 with fail
    try rw [hw3]
    clear hw3
    have x0 := HX.out.c0
    have x1 := HX.out.c1
    have hwn : wrap64 (n : Int) = (n : Int) := by have := HLE.out; unfold wrap64; omega
    go_wp2_with fail
    refine (HB.out w3).mono ?_
    rintro e w4 ⟨rfl, hk4⟩
    have HI44 := hid (HI43.out.keeps hk4)
    have HK4 := hid (Reg.Keeps.trans HK3.out hk4)
    clear hk4
    have d0 := HI44.out.c0
    have d1 := HI44.out.c1
    have g0 := HI44.out.f0
    have g1 := HI44.out.f1
    have HT := hid (HI44.out.set (s2) er2 (HRS.out))
    go_wp2_with fail
    refine bodyPost_ret (v := .tuple #[.agg #[.string (s2), .int .i64 (er2 : Int)], .string r]) (by have t0 : (((w4.setCell ⟨b4, 0, none⟩ (.string (s2))).setCell ⟨b4, 1, none⟩ (.int .i64 (er2 : Int)))).cell? ⟨b4, 0, none⟩ = some (.string (s2)) := HT.out.1.c0; have t1 : (((w4.setCell ⟨b4, 0, none⟩ (.string (s2))).setCell ⟨b4, 1, none⟩ (.int .i64 (er2 : Int)))).cell? ⟨b4, 1, none⟩ = some (.int .i64 (er2 : Int)) := HT.out.1.c1; simp [results, Try.results50, go_sem, t0, t1]; try rfl) rfl ?_

    exact ⟨rfl, But.keeps0 HK4.out HT.out.2 (by omega)⟩

set_option maxRecDepth 20000 in
set_option maxHeartbeats 4000000 in
theorem rsigned_any (s : ByteArray) (er : Nat) (w : World) (hs : s.size ≤ maxLen) (hinv : er ≠ 0 → s = ByteArray.empty) :
    Calls Try.prog 49 #[.agg #[.string s, .int .i64 (er : Int)]] w (RefEnd (pNum s er 18446744073709551615).2.1 (pNum s er 18446744073709551615).2.2 (.int .i64 (zag (pNum s er 18446744073709551615).1)) w) := by
  have hq0 := rnumber_any s er 18446744073709551615
  have HSZ := hid (pNum_size s er 18446744073709551615 hs)
  have HLE := hid (pNum_lt s er 18446744073709551615)
  generalize pNum s er 18446744073709551615 = p at *
  obtain ⟨n, s', er'⟩ := p
  dsimp only at *
  have HN := hid (fun w => hq0 w hs hinv)
  clear hq0
  obtain ⟨W1, hW1, hI2, hI4, hk1⟩ := inAt_two w s er hs
  obtain ⟨b2, hb2⟩ : ∃ b2, w.heap.size = b2 := ⟨_, rfl⟩
  rw [hb2] at hI2 hI4
  obtain ⟨b4, hb4⟩ : ∃ b4, b2 + 1 = b4 := ⟨_, rfl⟩
  rw [hb4] at hI4
  have c0 := hI2.c0
  have c1 := hI2.c1
  have d0 := hI4.c0
  have d1 := hI4.c1
  have g0 := hI4.f0
  have g1 := hI4.f1
  have HI4 := hid hI4
  have HK := hid hk1
  clear hI2 hI4 hk1
  go_enter Try.func49, Try.ntmps49
  go_upto_region 1 with fail
  try rw [hb2]
  try rw [hb4]
  try rw [hW1]
  clear hW1
  go_wp2_with fail
  refine (HN.out W1).mono ?_
  rintro e w2 ⟨rfl, hk2⟩
  obtain ⟨w3, hw3⟩ : ∃ w3, w2.alloc (.cells #[.string s', .int .i64 (er' : Int)] 28) = w3 := ⟨_, rfl⟩
  have hk3 : Reg.Keeps w2 w3 := by rw [← hw3]; exact (Reg.Keeps.refl _).alloc _
  have HI43 := hid ((HI4.out.keeps hk2).keeps hk3)
  have HK3 := hid (Reg.Keeps.trans (Reg.Keeps.trans HK.out hk2) hk3)
  have HX := hid (show InAt w3 w2.heap.size s' er' from by rw [← hw3]; exact inAt_new w2 s' er' HSZ.out)
  clear hk2 hk3 c0 c1 d0 d1 g0 g1
  go_upto_region 2 with fail
  try rw [hw3]
  clear hw3
  have x0 := HX.out.c0
  have x1 := HX.out.c1
  have d0 := HI43.out.c0
  have d1 := HI43.out.c1
  have g0 := HI43.out.f0
  have g1 := HI43.out.f1
  have hn64 := HLE.out
  by_cases ho : n % 2 = 1
  · have hz : zag n = -((n / 2 : Nat) : Int) - 1 := by unfold zag; rw [if_pos ho]
    have ho2 : ((n : Int) % 2 == 1) = true := by simp; omega
    have HP := hid (show zag n = -((n : Int) / 2) - 1 from by rw [hz]; omega)
    have HT := hid (HI43.out.set (s') er' (HSZ.out))
    go_wp2_with fail
    refine bodyPost_ret (v := .tuple #[.agg #[.string (s'), .int .i64 (er' : Int)], .int .i64 (-((n : Int) / 2) - 1)]) (by have t0 : (((w3.setCell ⟨b4, 0, none⟩ (.string (s'))).setCell ⟨b4, 1, none⟩ (.int .i64 (er' : Int)))).cell? ⟨b4, 0, none⟩ = some (.string (s')) := HT.out.1.c0; have t1 : (((w3.setCell ⟨b4, 0, none⟩ (.string (s'))).setCell ⟨b4, 1, none⟩ (.int .i64 (er' : Int)))).cell? ⟨b4, 1, none⟩ = some (.int .i64 (er' : Int)) := HT.out.1.c1; simp [results, Try.results49, go_sem, t0, t1]; try rfl) rfl ?_
    rw [HP.out]
    exact ⟨rfl, But.keeps0 HK3.out HT.out.2 (by omega)⟩
  · have hz : zag n = ((n / 2 : Nat) : Int) := by unfold zag; rw [if_neg ho]
    have ho2 : ((n : Int) % 2 == 1) = false := by simp; omega
    have HP := hid (show zag n = (n : Int) / 2 from by rw [hz]; omega)
    have HT := hid (HI43.out.set (s') er' (HSZ.out))
    go_wp2_with fail
    refine bodyPost_ret (v := .tuple #[.agg #[.string (s'), .int .i64 (er' : Int)], .int .i64 ((n : Int) / 2)]) (by have t0 : (((w3.setCell ⟨b4, 0, none⟩ (.string (s'))).setCell ⟨b4, 1, none⟩ (.int .i64 (er' : Int)))).cell? ⟨b4, 0, none⟩ = some (.string (s')) := HT.out.1.c0; have t1 : (((w3.setCell ⟨b4, 0, none⟩ (.string (s'))).setCell ⟨b4, 1, none⟩ (.int .i64 (er' : Int)))).cell? ⟨b4, 1, none⟩ = some (.int .i64 (er' : Int)) := HT.out.1.c1; simp [results, Try.results49, go_sem, t0, t1]; try rfl) rfl ?_
    rw [HP.out]
    exact ⟨rfl, But.keeps0 HK3.out HT.out.2 (by omega)⟩

theorem leB_drop (s : ByteArray) (j : Nat) (hj : j < s.size) : Oct.leB (s.data.toList.drop j) = s[j].toNat + 256 * Oct.leB (s.data.toList.drop (j + 1)) := by
  rw [drop_cons s j hj]
  rfl
theorem leB_lt5 (r : ByteArray) (h : r.size ≤ 8) : Oct.leB r.data.toList < 18446744073709551616 := by
  have h1 := Oct.leB_lt r.data.toList
  have h2 : r.data.toList.length ≤ 8 := by simpa using h
  exact Nat.lt_of_lt_of_le h1 (Nat.le_trans (Nat.pow_le_pow_right (by decide) h2) (by decide))
theorem leB_le : ∀ (l : List UInt8) (j : Nat), Oct.leB (l.drop j) ≤ Oct.leB l
  | l, 0 => Nat.le_refl _
  | [], j + 1 => Nat.le_refl _
  | c :: l, j + 1 => by
    have := leB_le l j
    simp only [List.drop_succ_cons, Oct.leB]
    omega

set_option maxRecDepth 20000 in
set_option maxHeartbeats 4000000 in
theorem rwhole_any (s : ByteArray) (er : Nat) (c : Nat) (w : World) (hs : s.size ≤ maxLen) (hinv : er ≠ 0 → s = ByteArray.empty) (hc : c ≤ 8) :
    Calls Try.prog 47 #[.agg #[.string s, .int .i64 (er : Int)], .int .i64 (c : Int)] w (RefEnd (pBytes s er c).2.1 (pBytes s er c).2.2 (.int .u64 (Oct.leB (pBytes s er c).1.data.toList : Nat)) w) := by
  have hq0 := fun w => rbytes_any s er (c : Int) w hs hinv
  have HSZ := hid (pBytes_size2 s er (c : Int) hs)
  have HQ8 := hid (Nat.le_trans (pBytes_size s er (c : Int)) (show ((c : Int)).toNat ≤ 8 by omega))
  generalize pBytes s er (c : Int) = p at *
  obtain ⟨r, s', er'⟩ := p
  dsimp only at *
  have HN := hid hq0
  clear hq0
  obtain ⟨W1, hW1, hI2, hI4, hk1⟩ := inAt_two w s er hs
  obtain ⟨b2, hb2⟩ : ∃ b2, w.heap.size = b2 := ⟨_, rfl⟩
  rw [hb2] at hI2 hI4
  obtain ⟨b4, hb4⟩ : ∃ b4, b2 + 1 = b4 := ⟨_, rfl⟩
  rw [hb4] at hI4
  have c0 := hI2.c0
  have c1 := hI2.c1
  have d0 := hI4.c0
  have d1 := hI4.c1
  have g0 := hI4.f0
  have g1 := hI4.f1
  have HI4 := hid hI4
  have HK := hid hk1
  clear hI2 hI4 hk1
  go_enter Try.func47, Try.ntmps47
  go_upto_region 1 with fail
  try rw [hb2]
  try rw [hb4]
  try rw [hW1]
  clear hW1
  go_wp2_with fail
  refine (HN.out W1).mono ?_
  rintro e w2 ⟨rfl, hk2⟩
  obtain ⟨w3, hw3⟩ : ∃ w3, w2.alloc (.cells #[.string s', .int .i64 (er' : Int)] 28) = w3 := ⟨_, rfl⟩
  have hk3 : Reg.Keeps w2 w3 := by rw [← hw3]; exact (Reg.Keeps.refl _).alloc _
  have HI43 := hid ((HI4.out.keeps hk2).keeps hk3)
  have HK3 := hid (Reg.Keeps.trans (Reg.Keeps.trans HK.out hk2) hk3)
  have HX := hid (show InAt w3 w2.heap.size s' er' from by rw [← hw3]; exact inAt_new w2 s' er' HSZ.out)
  clear hk2 hk3 c0 c1 d0 d1 g0 g1
  go_upto_region 2 with fail
  try rw [hw3]
  clear hw3
  have hr8 := HQ8.out
  obtain ⟨N, hN⟩ : ∃ N, Oct.leB r.data.toList = N := ⟨_, rfl⟩
  have hN64 : N < 18446744073709551616 := by
    have h1 := leB_lt5 r HQ8.out
    rw [hN] at h1; exact h1
  have HD := hid (fun j => (show Oct.leB (r.data.toList.drop j) ≤ N from by rw [← hN]; exact leB_le _ j))
  have HP := hid hN
  clear hN
  go_wp2_with fail
  go_loopw [8, 9] (fun s8 s9 wr => ∃ j n : Nat, j ≤ r.size ∧ s9 = .int .i64 ((j : Int) - 1) ∧ s8 = .int .u64 (n : Int) ∧ wr = w3 ∧ Hid (n = Oct.leB (r.data.toList.drop j))) (fun _ s9 _ => (intOf s9 + 1).toNat)
  case atStart => exact ⟨r.size, 0, Nat.le_refl _, rfl, rfl, rfl, hid (by rw [List.drop_of_length_le (by simp)]; rfl)⟩
  case round =>
    obtain ⟨j, n, hj, rfl, rfl, hwr, HJ⟩ := hrel
    subst hwr
    have hnN := HD.out j
    rw [← HJ.out] at hnN
    cases j with
    | zero =>
      have hnN2 : n = N := by have h := HJ.out; rw [List.drop_zero, HP.out] at h; exact h
      subst hnN2
      rw [show ((0 : Nat) : Int) - 1 = -1 from rfl]
      have x0 := HX.out.c0
      have x1 := HX.out.c1
      have d0 := HI43.out.c0
      have d1 := HI43.out.c1
      have g0 := HI43.out.f0
      have g1 := HI43.out.f1
      clear HJ HD
      have HT := hid (HI43.out.set (s') er' (HSZ.out))
      go_wp2_with fail
      refine bodyPost_ret (v := .tuple #[.agg #[.string (s'), .int .i64 (er' : Int)], .int .u64 (n : Int)]) (by have t0 : (((wr.setCell ⟨b4, 0, none⟩ (.string (s'))).setCell ⟨b4, 1, none⟩ (.int .i64 (er' : Int)))).cell? ⟨b4, 0, none⟩ = some (.string (s')) := HT.out.1.c0; have t1 : (((wr.setCell ⟨b4, 0, none⟩ (.string (s'))).setCell ⟨b4, 1, none⟩ (.int .i64 (er' : Int)))).cell? ⟨b4, 1, none⟩ = some (.int .i64 (er' : Int)) := HT.out.1.c1; simp [results, Try.results47, go_sem, t0, t1]; try rfl) rfl ?_
      rw [HP.out]
      exact ⟨rfl, But.keeps0 HK3.out HT.out.2 (by omega)⟩
    | succ m =>
      have hms : m < r.size := by omega
      have hc2 : r[m].toNat < 256 := r[m].toNat_lt
      have hmk : ((m + 1 : Nat) : Int) - 1 = (m : Int) := by omega
      have hn2 : n * 256 + r[m].toNat ≤ N := by have h := HD.out m; rw [leB_drop r m hms, ← HJ.out] at h; omega
      have HJ2 := hid (show n * 256 + r[m].toNat = Oct.leB (r.data.toList.drop m) from by rw [leB_drop r m hms, ← HJ.out]; omega)
      rw [hmk]
      have hmd : decide ((0 : Int) ≤ (m : Int)) = true := decide_eq_true (by omega)
      go_wp2_with fail
      exact ⟨⟨m, n * 256 + r[m].toNat, by omega, rfl, by push_cast; rfl, by first | rfl | trivial, HJ2⟩, by simp [intOf]⟩
end Go.Proofs.Ytedhecbcpcmlmaa
