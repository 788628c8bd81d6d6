/-
  OctetOne, walked.
-/
import Derived.Test.YtedhecbcpcmlmaaBack
namespace Go.Proofs.Ytedhecbcpcmlmaa
open Go.RowKit

theorem own_but {b : Nat} {w w' : World} {v : Value} {xs : List Value} (h : But b w w') (ho : Sl.Own w v xs) (hv : v.ownBlock ≠ some b) : Sl.Own w' v xs := by
  rcases ho with h1 | ⟨g, cap, rfl, h2⟩
  · exact .inl h1
  · exact .inr ⟨g, cap, rfl, h2.block (h.block g h2.lt (fun e => hv (by simpa [Value.ownBlock] using e))) h.size⟩
theorem set_false {L : Array Bool} {i j : Nat} (h : (L.setIfInBounds i true).getD j false = false) : L.getD j false = false := by
  cases h2 : L.getD j false with
  | false => rfl
  | true => rw [getD_set_true h2] at h; cases h
theorem getD_false {L : Array Bool} {i : Nat} (h : L.getD i true = false) : L.getD i false = false := by
  rcases Nat.lt_or_ge i L.size with h' | h'
  · simp [h'] at h ⊢; exact h
  · simp [Array.getElem?_eq_none h'] at h
theorem set_self {L : Array Bool} {i : Nat} (h : L.getD i true = false) : (L.setIfInBounds i true).getD i false = true := by
  rcases Nat.lt_or_ge i L.size with h' | h'
  · simp [h']
  · simp [Array.getElem?_eq_none h'] at h

theorem first_spell : ∀ (l : List UInt8) (k acc N K : Nat), k ≤ 9 → first k acc l = (N, K, 0) → ∃ n', N = acc + n' * 128 ^ k ∧ (0 < k → 0 < n') ∧ k < K ∧ l.take (K - k) = Oct.numB (9 - k) n'
  | [], k, acc, N, K, _, h => by simp [first] at h
  | c :: l, k, acc, N, K, hk, h => by
    have hc := c.toNat_lt
    by_cases h1 : k = 9 ∧ 1 < c.toNat
    · obtain ⟨rfl, h1⟩ := h1
      rw [first_hi acc c l h1] at h; simp at h
    · by_cases h2 : 0 < k ∧ c.toNat = 0
      · rw [first_zero k acc c l h2.1 h2.2] at h; simp at h
      · by_cases h3 : c.toNat < 128
        · rw [first_end k acc c l h1 h2 h3] at h
          simp only [Prod.mk.injEq] at h
          obtain ⟨rfl, rfl, _⟩ := h
          refine ⟨c.toNat % 128, rfl, fun h => by omega, by omega, ?_⟩
          rw [Nat.mod_eq_of_lt h3, Oct.numB_small _ h3, show k + 1 - k = 1 by omega]
          simp
        · rw [first_go k acc c l h1 h2 h3] at h
          have hk9 : k < 9 := by
            rcases Nat.lt_or_ge k 9 with h4 | h4
            · exact h4
            · exact absurd ⟨by omega, by omega⟩ h1
          obtain ⟨n2, hN, hpos, hK, htake⟩ := first_spell l (k + 1) _ N K (by omega) h
          have hp := hpos (by omega)
          refine ⟨c.toNat % 128 + 128 * n2, ?_, fun _ => by omega, by omega, ?_⟩
          · rw [hN, Nat.pow_succ, Nat.add_mul, Nat.add_assoc]
            congr 2
            rw [Nat.mul_comm (128 ^ k) 128, ← Nat.mul_assoc, Nat.mul_comm n2 128]
          · rw [show K - k = (K - (k + 1)) + 1 by omega, List.take_succ_cons, htake, show 9 - k = (9 - (k + 1)) + 1 by omega, Oct.numB_more _ (by omega)]
            congr 1
            · rw [show (c.toNat % 128 + 128 * n2) % 128 + 128 = c.toNat by omega]; simp
            · congr 1; omega

theorem spell (s : ByteArray) (h : (first 0 0 s.data.toList).2.2 = 0) : (⟨(Oct.numB 9 (first 0 0 s.data.toList).1).toArray⟩ : ByteArray) ++ s.extract (first 0 0 s.data.toList).2.1 s.size = s := by
  obtain ⟨n', hN, _, hK, ht⟩ := first_spell s.data.toList 0 0 (first 0 0 s.data.toList).1 (first 0 0 s.data.toList).2.1 (by omega) (Prod.ext rfl (Prod.ext rfl h))
  have hN' : (first 0 0 s.data.toList).1 = n' := by simpa using hN
  rw [hN']
  simp only [Nat.sub_zero] at ht
  rw [← ht]
  apply ByteArray.ext
  apply Array.toList_inj.1
  rw [ByteArray.data_append, Array.toList_append, extract_list]
  have e : (s.data.toList.drop (first 0 0 s.data.toList).2.1).take (s.size - (first 0 0 s.data.toList).2.1) = s.data.toList.drop (first 0 0 s.data.toList).2.1 := List.take_of_length_le (by simp)
  rw [e]
  simp

def oneR (t r : ByteArray) (n b : Nat) : List (Value → World → Prop) :=
  [fun v _ => v = .int .u64 (n : Int),
   fun v wx => Sl.Own wx v (Sl.cells (Oct.numB 9 n)) ∧ v.ownBlock ≠ some b,
   fun v _ => v = .string (⟨(Oct.numB 9 n).toArray⟩ : ByteArray),
   fun v _ => v = .pointer (some ⟨b, 0, none⟩),
   fun v _ => v = .string r,
   fun v _ => v = .string ((⟨(Oct.numB 9 n).toArray⟩ : ByteArray) ++ r),
   fun v _ => v = .string t,
   fun v _ => v = .bool true,
   fun v _ => v = .bool true]
theorem oneR_kept (t r : ByteArray) (n b : Nat) : Reg.AllKept (But b) (oneR t r n b) :=
  ⟨(fun _ _ _ _ h => h), (fun _ _ _ h k => ⟨own_but h k.1 k.2, k.2⟩), (fun _ _ _ _ h => h), (fun _ _ _ _ h => h), (fun _ _ _ _ h => h), (fun _ _ _ _ h => h), (fun _ _ _ _ h => h), (fun _ _ _ _ h => h), (fun _ _ _ _ h => h), trivial⟩

set_option maxRecDepth 10000 in
set_option maxHeartbeats 800000 in
theorem octetOne_any (s : ByteArray) (w : World) (hs : s.size ≤ maxLen) :
    Calls Try.prog 6 #[.string s] w fun e w' => e = .returned (.bool true) ∧ Below w.heap.size w w' := by
  go_enter Try.func6, Try.ntmps6
  go_wp2_with fail
  refine (cut_any s 12 _ hs).mono ?_
  rintro e w1 ⟨rfl, rfl⟩
  have hs2 : (s.extract 0 12).size ≤ 12 := by rw [extract_size]; omega
  generalize s.extract 0 12 = t at *
  go_wp2_with fail
  refine (of_any t _ (by unfold maxLen; omega)).mono ?_
  rintro e w7 ⟨rfl, hi7, hk7⟩
  generalize hb : w1.heap.size = b at *
  have hbk : w1.heap.size ≤ b := Nat.le_of_eq hb
  have HK : Hid (Reg.Keeps w1 w7) := hk7
  clear hb hk7
  go_wp2_with fail
  refine (awake1_any _).mono ?_
  rintro e w8 ⟨rfl, hk8⟩
  have hi8 := hi7.keeps hk8
  have HK8 : Hid (Reg.Keeps w1 w8) := HK.out.trans hk8
  clear hi7 hk8 HK
  have hsp := spell t
  have hlt := pNum_lt t 0 18446744073709551615
  have hn0 : (pNum t 0 18446744073709551615).2.2 = 0 → (⟨(Oct.numB 9 (pNum t 0 18446744073709551615).1).toArray⟩ : ByteArray) ++ (pNum t 0 18446744073709551615).2.1 = t := by
    intro h
    have h0 : (first 0 0 t.data.toList).2.2 = 0 := by
      cases Nat.decEq (first 0 0 t.data.toList).2.2 0 with
      | isTrue h1 => exact h1
      | isFalse h1 => unfold pNum at h; rw [if_pos h1] at h; exact absurd h h1
    have hl := first_lt t.data.toList 0 0 (by omega) (by simp)
    unfold pNum
    rw [if_neg (by rw [h0]; simp), if_neg (by omega)]
    exact hsp h0
  have hn1 : (pNum t 0 18446744073709551615).2.2 ≠ 0 → (pNum t 0 18446744073709551615).1 = 0 ∧ (pNum t 0 18446744073709551615).2.1 = ByteArray.empty := by
    intro h
    unfold pNum at h ⊢
    split
    · exact ⟨rfl, rfl⟩
    · rename_i h1
      rw [if_neg h1] at h
      split
      · exact ⟨rfl, rfl⟩
      · rename_i h2
        rw [if_neg h2] at h
        exact absurd rfl h
  have hc := fun w h => inNum_any b t 0 18446744073709551615 w h
  generalize pNum t 0 18446744073709551615 = p at *
  obtain ⟨n, r, er⟩ := p
  have Hn0 := hid hn0
  have Hn1 := hid hn1
  have Hc := hid hc
  clear hn0 hn1 hsp hc
  go_wp2_with fail
  refine (Hc.out _ hi8).mono ?_
  rintro e w9 ⟨rfl, hi9, hb9⟩
  clear Hc
  go_wp2_with fail
  refine (err_any b _ _ _ hi9).mono ?_
  rintro e w10 ⟨rfl, rfl⟩
  by_cases he : er = 0
  · subst he
    have Hcat := hid (Hn0.out rfl)
    have hn : n < 18446744073709551616 := hlt
    have hls : (Oct.numB 9 n).length ≤ 10 ∧ r.size ≤ 12 := by
      refine ⟨Oct.numB_length 9 n, ?_⟩
      have h1 : ((⟨(Oct.numB 9 n).toArray⟩ : ByteArray) ++ r).size = t.size := congrArg ByteArray.size Hcat.out
      rw [ByteArray.size_append] at h1
      omega
    go_wp2_with fail
    have hrefl : ∀ w : World, But b w w := But.refl b
    refine Reg.wp_region_props (Reg.ofList (oneR t r n b)) (But b) (fun L wx => b < wx.heap.size ∧ But b w10 wx ∧ (L.getD 4 false = false → InAt wx b r 0)) (by kernel_rfl) (by kernel_rfl) (Reg.AllKept.at _ (oneR_kept t r n b)) hrefl ⟨hi9.lt, But.keeps ((Reg.Keeps.refl _).drewN 1), fun _ => hi9.keeps ((Reg.Keeps.refl _).drewN 1)⟩ ⟨?_, ?_, ?_, ?_, ?_, ?_, ?_, ?_, ?_, trivial⟩ ?_
    · refine Reg.StepAt.plain (i := 0) rfl ?_
      intro L ev w hI hk hp hA
      have e4 : ev (.tmp 4) = .int .u64 (n : Int) := hA.oldNone 4 (by kernel_rfl)
      have hcc := hA.const
      clear hA hp
      refine Reg.out_value (v := .int .u64 (n : Int)) ?_ ⟨rfl, hrefl _, ⟨hI.1, hI.2.1, fun h => hI.2.2 (set_false h)⟩⟩
      go_simp
    · refine Reg.StepAt.plain (i := 1) rfl ?_
      intro L ev w hI hk hp hA
      have e27 : ev (.tmp 27) = .int .u64 (n : Int) := hA.val 0 _ 27 rfl (hp ⟨0, .data⟩ (by simp) rfl) rfl
      have hcc := hA.const
      have hcf := hA.func
      clear hA hp
      refine Reg.out_call (f := 19) (args := #[.slice none 0 0, .int .u64 (n : Int)]) (w0 := w) ?_ ?_
      · go_simp
      refine (num_any (.slice none 0 0) [] n w (Sl.Own.nil _) (by decide) hn).mono ?_
      rintro e w' ⟨v', rfl, ho, hf, _⟩
      exact ⟨_, rfl, ⟨ho, fun e => by have := hf.lies b e; have h2 := hI.1; simp [Value.ownBlock] at this; omega⟩, But.keeps hf.keepsNil, Nat.lt_of_lt_of_le hI.1 hf.keepsNil.size, hI.2.1.trans (But.keeps hf.keepsNil), fun h => (hI.2.2 (set_false h)).keeps hf.keepsNil⟩
    · refine Reg.StepAt.plain (i := 2) rfl ?_
      intro L ev w hI hk hp hA
      have e28 : (fun v wx => Sl.Own wx v (Sl.cells (Oct.numB 9 n)) ∧ v.ownBlock ≠ some b) (ev (.tmp 28)) w := hA.val 1 _ 28 rfl (hp ⟨1, .data⟩ (by simp) rfl) rfl
      have hcc := hA.const
      clear hA hp
      have hst := str_of w _ _ e28.1
      refine Reg.out_value (v := .string (⟨(Oct.numB 9 n).toArray⟩ : ByteArray)) ?_ ⟨rfl, hrefl _, hI.1, hI.2.1, fun h => hI.2.2 (set_false h)⟩
      go_simp
    · refine Reg.StepAt.plain (i := 3) rfl ?_
      intro L ev w hI hk hp hA
      have e3 : ev (.tmp 3) = .pointer (some ⟨b, 0, none⟩) := hA.oldNone 3 (by kernel_rfl)
      have hcc := hA.const
      clear hA hp
      refine Reg.out_value (v := .pointer (some ⟨b, 0, none⟩)) ?_ ⟨rfl, hrefl _, ⟨hI.1, hI.2.1, fun h => hI.2.2 (set_false h)⟩⟩
      go_simp
    · refine Reg.StepAt.plain (i := 4) rfl ?_
      intro L ev w hI hk hp hA
      have e30 : ev (.tmp 30) = .pointer (some ⟨b, 0, none⟩) := hA.val 3 _ 30 rfl (hp ⟨3, .data⟩ (by simp) rfl) rfl
      have hcc := hA.const
      have hcf := hA.func
      clear hA hp
      refine Reg.out_call (f := 36) (args := #[.pointer (some ⟨b, 0, none⟩)]) (w0 := w) ?_ ?_
      · go_simp
      refine (rest_any b r 0 w (hI.2.2 (getD_false hk))).mono ?_
      rintro e w' ⟨rfl, hi, hb⟩
      exact ⟨_, rfl, rfl, hb, hi.lt, hI.2.1.trans hb, fun h => absurd h (by rw [set_self hk]; decide)⟩
    · refine Reg.StepAt.plain (i := 5) rfl ?_
      intro L ev w hI hk hp hA
      have e29 : ev (.tmp 29) = .string (⟨(Oct.numB 9 n).toArray⟩ : ByteArray) := hA.val 2 _ 29 rfl (hp ⟨2, .data⟩ (by simp) rfl) rfl
      have e31 : ev (.tmp 31) = .string r := hA.val 4 _ 31 rfl (hp ⟨4, .data⟩ (by simp) rfl) rfl
      have hcc := hA.const
      clear hA hp
      have hsz := hls
      refine Reg.out_value (v := .string ((⟨(Oct.numB 9 n).toArray⟩ : ByteArray) ++ r)) ?_ ⟨rfl, hrefl _, hI.1, hI.2.1, fun h => hI.2.2 (set_false h)⟩
      go_simp
      omega
    · refine Reg.StepAt.plain (i := 6) rfl ?_
      intro L ev w hI hk hp hA
      have e0 : ev (.tmp 0) = .string t := hA.oldNone 0 (by kernel_rfl)
      have hcc := hA.const
      clear hA hp
      refine Reg.out_value (v := .string t) ?_ ⟨rfl, hrefl _, ⟨hI.1, hI.2.1, fun h => hI.2.2 (set_false h)⟩⟩
      go_simp
    · refine Reg.StepAt.plain (i := 7) rfl ?_
      intro L ev w hI hk hp hA
      have e32 : ev (.tmp 32) = .string ((⟨(Oct.numB 9 n).toArray⟩ : ByteArray) ++ r) := hA.val 5 _ 32 rfl (hp ⟨5, .data⟩ (by simp) rfl) rfl
      have e33 : ev (.tmp 33) = .string t := hA.val 6 _ 33 rfl (hp ⟨6, .data⟩ (by simp) rfl) rfl
      have hcc := hA.const
      clear hA hp
      refine Reg.out_value (v := .bool true) ?_ ⟨rfl, hrefl _, hI.1, hI.2.1, fun h => hI.2.2 (set_false h)⟩
      rw [Hcat.out] at e32
      go_simp
    · refine Reg.StepAt.plain (i := 8) rfl ?_
      intro L ev w hI hk hp hA
      have e34 : ev (.tmp 34) = .bool true := hA.val 7 _ 34 rfl (hp ⟨7, .data⟩ (by simp) rfl) rfl
      have hcc := hA.const
      clear hA hp
      refine Reg.out_value (v := .bool true) ?_ ⟨rfl, hrefl _, ⟨hI.1, hI.2.1, fun h => hI.2.2 (set_false h)⟩⟩
      go_simp
    intro L a w' hall hI hF
    have h2 : a.eval (.tmp 2) = .bool true := hF.val 8 _ 2 rfl (hall 8 (by simp)) rfl
    have hd : a.defers = [] := hF.defers
    clear hF hall
    go_wp2
    refine bodyPost_ret (results_tmp rfl a.tmps Try.prog w') hd ?_
    refine ⟨congrArg Ending.returned h2, ?_⟩
    exact Below.trans HK8.out (But.below (b := b) (hb9.trans hI.2.1) hbk HK8.out.size)
  · have he2 : ((er : Int) == 0) = false := by simp; omega
    obtain ⟨hz, hr⟩ := Hn1.out he
    have hz' : n = 0 := hz
    have hr' : r = ByteArray.empty := hr
    clear hz hr Hn0 Hn1 hlt
    subst hz' hr'
    go_wp2_with fail
    refine (left_any b _ _ _ hi9).mono ?_
    rintro e w11 ⟨rfl, rfl⟩
    go_wp2
    go_ret
    exact ⟨rfl, Below.trans HK8.out (But.below (b := b) hb9 hbk HK8.out.size)⟩
end Go.Proofs.Ytedhecbcpcmlmaa
