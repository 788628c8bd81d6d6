/-
  CrcSums and CrcOpens, walked.
-/
import Derived.Test.YtedhecbcpcmlmaaOpen
import Derived.Test.YtedhecbcpcmlmaaBack
namespace Go.Proofs.Ytedhecbcpcmlmaa
open Go.RowKit

theorem str_ne {a b : ByteArray} (h : ¬ a = b) : (a.toList == b.toList) = false := by
  rw [ByteArray.toList_eq, ByteArray.toList_eq, beq_eq_false_iff_ne]
  intro e
  exact h (ByteArray.ext (Array.toList_inj.1 e))
theorem ba_size (l : List UInt8) : (⟨l.toArray⟩ : ByteArray).size = l.length := by
  show l.toArray.size = _
  simp
theorem seal_back (l : List UInt8) : Oct.leB ((⟨(sealB l).toArray⟩ : ByteArray).extract l.length (⟨(sealB l).toArray⟩ : ByteArray).size).data.toList = Crc.more 0 l := by
  rw [show sealB l = l ++ Oct.fixB 4 (Crc.more 0 l) from rfl, ext_back l _ l.length rfl]
  exact le_fix 4 _ (Crc.more_lt _ _)
theorem seal_front (l : List UInt8) : (⟨(sealB l).toArray⟩ : ByteArray).extract 0 l.length = ⟨l.toArray⟩ := ext_front l _ l.length rfl
theorem ba_self (t : ByteArray) : (⟨t.data.toList.toArray⟩ : ByteArray) = t := by apply ByteArray.ext; simp

set_option maxRecDepth 10000 in
set_option maxHeartbeats 800000 in
theorem crcSums_any (s : ByteArray) (w : World) (hs : s.size ≤ maxLen) :
    Calls Try.prog 8 #[.string s] w fun e w' => e = .returned (.bool true) ∧ Below w.heap.size w w' := by
  go_enter Try.func8, Try.ntmps8
  go_wp2_with fail
  refine (cut_any s 300 _ hs).mono ?_
  rintro e w1 ⟨rfl, rfl⟩
  have hs2 : (s.extract 0 300).size ≤ 300 := by rw [extract_size]; omega
  generalize s.extract 0 300 = t at *
  go_wp2_with fail
  refine (awake2_any _).mono ?_
  rintro e w2 ⟨rfl, hk2⟩
  go_wp2_with fail
  refine (make_any _).mono ?_
  rintro e w3 ⟨b, rfl, hb3, hb, hk3, ht⟩
  have Ht : Hid (TabAt w3 b) := ht
  have HK3 : Hid (Below w1.heap.size w1 w3) := hk2.trans (hk3.mono hk2.size)
  clear ht hk2 hk3 hb3
  go_wp2_with fail
  refine (seal_any b t _ Ht.out hb (by omega)).mono ?_
  rintro e w4 ⟨rfl, hk4⟩
  have Ht4 : Hid (TabAt w4 b) := Ht.out.below hb hk4
  have hb4 : b < w4.heap.size := Nat.lt_of_lt_of_le hb hk4.size
  have HK4 : Hid (Below w1.heap.size w1 w4) := HK3.out.trans (hk4.mono HK3.out.size)
  have hl : (sealB t.data.toList).length = t.size + 4 := by rw [sealB_length]; simp
  have hlt : t.data.toList.length = t.size := by simp
  have hov : openV ⟨(sealB t.data.toList).toArray⟩ t.size (Crc.more 0 t.data.toList) (Crc.more 0 t.data.toList) = .tuple #[.string t, .int .i64 0] := by
    unfold openV
    rw [if_pos rfl]
    have := seal_front t.data.toList
    rw [hlt, ba_self] at this
    rw [this]
  have hop := fun w h1 h2 => open_long b ⟨(sealB t.data.toList).toArray⟩ t.size (Crc.more 0 t.data.toList) (Crc.more 0 t.data.toList) w h1 h2 (by rw [ba_size, hl]; omega) (by rw [ba_size, hl]) (by have := seal_back t.data.toList; rw [hlt] at this; exact this) (by have := seal_front t.data.toList; rw [hlt] at this; rw [this])
  rw [hov] at hop
  have Hop := hid hop
  clear hop hov hl hlt Ht hk4 HK3 hb
  go_wp2_with fail
  refine (Hop.out _ Ht4.out hb4).mono ?_
  rintro e w5 ⟨rfl, hk5⟩
  have Ht5 : Hid (TabAt w5 b) := Ht4.out.below hb4 hk5
  have hb5 : b < w5.heap.size := Nat.lt_of_lt_of_le hb4 hk5.size
  have HK5 : Hid (Below w1.heap.size w1 w5) := HK4.out.trans (hk5.mono HK4.out.size)
  have hsum := fun w h1 h2 => sum_one b w5.heap.size t (Crc.more 0 t.data.toList) w h1 (by unfold maxLen; omega) rfl h2
  have hrs := fun w => refSum_any t w (by omega)
  have hse := fun w h1 h2 => seal_any b t w h1 h2 (by omega)
  have hre := fun w => refSeal_any t w (by omega)
  generalize Crc.more 0 t.data.toList = z at *
  generalize (⟨(sealB t.data.toList).toArray⟩ : ByteArray) = S at *
  have Hsum := hid hsum
  have Hrs := hid hrs
  have Hse := hid hse
  have Hre := hid hre
  clear hsum hrs hse hre Hop Ht4 hb4 hk5 HK4
  go_wp2_with fail
  refine (Hsum.out _ (Ht5.out.alloc hb5 _) (by simp)).mono ?_
  rintro e w6 ⟨rfl, n, rfl⟩
  have Ht6 : Hid (TabAt ((w5.alloc (Obj.cells #[Value.string t] 9)).drewN n) b) := (Ht5.out.alloc hb5 _).drewN
  have HK6 : Hid (Below w1.heap.size w1 ((w5.alloc (Obj.cells #[Value.string t] 9)).drewN n)) := (HK5.out.alloc HK5.out.size _).drewN n
  have hb6 : b < ((w5.alloc (Obj.cells #[Value.string t] 9)).drewN n).heap.size := by simp; omega
  generalize (w5.alloc (Obj.cells #[Value.string t] 9)).drewN n = w6 at *
  clear Ht5 HK5 hb5 Hsum
  go_wp2_with fail
  refine (Hrs.out _).mono ?_
  rintro e w7 ⟨rfl, hk7⟩
  have Ht7 : Hid (TabAt w7 b) := Ht6.out.below hb6 hk7
  have hb7 : b < w7.heap.size := Nat.lt_of_lt_of_le hb6 hk7.size
  have HK7 : Hid (Below w1.heap.size w1 w7) := HK6.out.trans (hk7.mono HK6.out.size)
  clear Ht6 HK6 hb6 hk7
  go_wp2_with fail
  refine (Hse.out _ Ht7.out hb7).mono ?_
  rintro e w8 ⟨rfl, hk8⟩
  have HK8 : Hid (Below w1.heap.size w1 w8) := HK7.out.trans (hk8.mono HK7.out.size)
  clear HK7 hk8
  go_wp2_with fail
  refine (Hre.out _).mono ?_
  rintro e w9 ⟨rfl, hk9⟩
  have HK9 : Hid (Below w1.heap.size w1 w9) := HK8.out.trans (hk9.mono HK8.out.size)
  clear HK8 hk9
  go_wp2
  go_ret
  exact ⟨rfl, HK9.out⟩

theorem word_fix (x : ByteArray) (h : x.size = 4) : Oct.fixB 4 (Oct.leB x.data.toList) = x.data.toList := by
  have hl : x.data.toList.length = 4 := by simpa using h
  match hx : x.data.toList, hl with
  | [a, b, c, d], _ =>
    have ha := a.toNat_lt
    have hb := b.toNat_lt
    have hc := c.toNat_lt
    have hd := d.toNat_lt
    simp only [Oct.leB, Oct.fixB]
    have e : ∀ (u : UInt8) (n : Nat), n % 256 = u.toNat → UInt8.ofNat n = u := fun u n h => by
      apply UInt8.toNat_inj.1
      rw [Oct.byte_mod, h]
    rw [e a _ (by omega), e b _ (by omega), e c _ (by omega), e d _ (by omega)]

/-- Sealed: just where the last four bytes are the sum. -/
theorem sealed_iff (t : ByteArray) (k : Nat) (hk : t.size = k + 4) : (⟨(sealB (t.extract 0 k).data.toList).toArray⟩ : ByteArray) = t ↔ Oct.leB (t.extract k t.size).data.toList = Crc.more 0 (t.extract 0 k).data.toList := by
  have hsp : (t.extract 0 k).data.toList ++ (t.extract k t.size).data.toList = t.data.toList := two_parts t k
  have h4 : (t.extract k t.size).size = 4 := by simp; omega
  constructor
  · intro h
    have h2 : (t.extract 0 k).data.toList ++ Oct.fixB 4 (Crc.more 0 (t.extract 0 k).data.toList) = t.data.toList := by
      have := congrArg (fun x : ByteArray => x.data.toList) h
      simpa [sealB] using this
    have h3 : Oct.fixB 4 (Crc.more 0 (t.extract 0 k).data.toList) = (t.extract k t.size).data.toList := by
      rw [← hsp] at h2
      exact List.append_cancel_left h2
    rw [← h3]; exact le_fix 4 _ (Crc.more_lt _ _)
  · intro h
    have h3 := word_fix _ h4
    rw [h] at h3
    apply ByteArray.ext
    apply Array.toList_inj.1
    show (sealB _).toArray.toList = _
    rw [← hsp, List.toList_toArray]
    unfold sealB
    rw [h3]

set_option maxRecDepth 10000 in
set_option maxHeartbeats 800000 in
theorem crcOpens_any (s : ByteArray) (w : World) (hs : s.size ≤ maxLen) :
    Calls Try.prog 12 #[.string s] w fun e w' => e = .returned (.bool true) ∧ Below w.heap.size w w' := by
  go_enter Try.func12, Try.ntmps12
  go_wp2_with fail
  refine (cut_any s 200 _ hs).mono ?_
  rintro e w1 ⟨rfl, rfl⟩
  have hs2 : (s.extract 0 200).size ≤ 200 := by rw [extract_size]; omega
  generalize s.extract 0 200 = t at *
  go_wp2_with fail
  refine (awake2_any _).mono ?_
  rintro e w2 ⟨rfl, hk2⟩
  go_wp2_with fail
  refine (make_any _).mono ?_
  rintro e w3 ⟨b, rfl, hb3, hb, hk3, ht⟩
  have Ht : Hid (TabAt w3 b) := ht
  have HK3 : Hid (Below w1.heap.size w1 w3) := hk2.trans (hk3.mono hk2.size)
  clear ht hk2 hk3 hb3
  by_cases h4 : t.size < 4
  · have i1 : (t.size : Int) < 4 := by omega
    go_wp2_with fail
    refine (open_short b t _ h4).mono ?_
    rintro e w4 ⟨rfl, rfl⟩
    go_wp2
    go_ret
    exact ⟨rfl, HK3.out⟩
  · obtain ⟨k, hk⟩ : ∃ k, t.size = k + 4 := ⟨t.size - 4, by omega⟩
    have hop := fun w h1 h2 => open_long b t k _ _ w h1 h2 (by omega) hk rfl rfl
    have hif := sealed_iff t k hk
    have hre := fun w => refSeal_any (t.extract 0 k) w (by simp; omega)
    generalize Oct.leB (t.extract k t.size).data.toList = x at *
    generalize Crc.more 0 (t.extract 0 k).data.toList = z at *
    generalize (⟨(sealB (t.extract 0 k).data.toList).toArray⟩ : ByteArray) = S at *
    have i1 : 4 ≤ (t.size : Int) := by omega
    have i2 : (t.size : Int) - 4 = (k : Int) := by omega
    have i3 : (k : Int) ≤ (t.size : Int) := by omega
    have Hop := hid hop
    have Hif := hid hif
    have Hre := hid hre
    clear hop hif hre hk
    by_cases hxz : x = z
    · have hS := Hif.out.2 hxz
      have hov : openV t k x z = .tuple #[.string (t.extract 0 k), .int .i64 0] := if_pos hxz
      rw [hov] at Hop
      clear hov Hif hxz
      subst hS
      go_wp2_with fail
      refine (Hop.out _ Ht.out hb).mono ?_
      rintro e w4 ⟨rfl, hk4⟩
      go_wp2_with fail
      refine (Hre.out _).mono ?_
      rintro e w5 ⟨rfl, hk5⟩
      have HK5 : Hid (Below w1.heap.size w1 w5) := (HK3.out.trans (hk4.mono HK3.out.size)).trans (Below.mono hk5 (Nat.le_trans HK3.out.size hk4.size))
      go_wp2
      go_ret
      exact ⟨rfl, HK5.out⟩
    · have hS : ¬ S = t := fun h => hxz (Hif.out.1 h)
      have hov : openV t k x z = .tuple #[.string ⟨#[]⟩, .int .i64 7] := if_neg hxz
      rw [hov] at Hop
      clear hov Hif hxz
      have hSb : (S.toList == t.toList) = false := str_ne hS
      go_wp2_with fail
      refine (Hop.out _ Ht.out hb).mono ?_
      rintro e w4 ⟨rfl, hk4⟩
      go_wp2_with fail
      refine (Hre.out _).mono ?_
      rintro e w5 ⟨rfl, hk5⟩
      have HK5 : Hid (Below w1.heap.size w1 w5) := (HK3.out.trans (hk4.mono HK3.out.size)).trans (Below.mono hk5 (Nat.le_trans HK3.out.size hk4.size))
      go_wp2
      go_ret
      exact ⟨rfl, HK5.out⟩
end Go.Proofs.Ytedhecbcpcmlmaa
