/-
  What a text of sixteen digits says, and whose text it is.
-/
import Derived.Test.YtfcjdgjjicfheaaDoorText
import Derived.Test.YtfcjdgjjicfheaaDoorHex16
namespace Go.Proofs.YtfcjdgjjicfheaaDoor
open Go.RowKit

theorem hexL_succ (u L : Nat) : hexL u (L + 1) = UInt8.ofNat (hexd (u / 16 ^ L % 16)) :: hexL u L := by
  unfold hexL
  rw [List.range_succ_eq_map, List.map_cons, List.map_map]
  congr 1
  apply List.map_congr_left
  intro t _
  show UInt8.ofNat (hexd (u / 16 ^ (L + 1 - 1 - (t + 1)) % 16)) = _
  rw [show L + 1 - 1 - (t + 1) = L - 1 - t by omega]

/-- A small digit's number. -/
def ldig (c : UInt8) : Option Nat := if 48 ≤ c.toNat ∧ c.toNat ≤ 57 then some (c.toNat - 48) else if 97 ≤ c.toNat ∧ c.toNat ≤ 102 then some (c.toNat - 87) else none
def rd16 (acc : Nat) : List UInt8 → Option Nat
  | [] => some acc
  | c :: cs => match ldig c with
    | none => none
    | some d => rd16 (acc * 16 + d) cs
theorem ldig_hexd (d : Nat) (h : d < 16) : ldig (UInt8.ofNat (hexd d)) = some d := by
  have : ∀ d : Fin 16, ldig (UInt8.ofNat (hexd d.val)) = some d.val := by decide +kernel
  exact this ⟨d, h⟩
theorem dig16_hexd (d : Nat) (h : d < 16) : dig16 (UInt8.ofNat (hexd d)) = some d := by
  have : ∀ d : Fin 16, dig16 (UInt8.ofNat (hexd d.val)) = some d.val := by decide +kernel
  exact this ⟨d, h⟩
theorem hexd_ldig {c : UInt8} {d : Nat} (h : ldig c = some d) : d < 16 ∧ UInt8.ofNat (hexd d) = c := by
  have H0 : ∀ n : Fin 256, ldig (UInt8.ofNat n.val) = none ∨ ∃ d : Fin 16, ldig (UInt8.ofNat n.val) = some d.val ∧ UInt8.ofNat (hexd d.val) = UInt8.ofNat n.val := by decide +kernel
  have H : ∀ n : Fin 256, ∀ d, ldig (UInt8.ofNat n.val) = some d → d < 16 ∧ UInt8.ofNat (hexd d) = UInt8.ofNat n.val := by
    intro n d hd
    rcases H0 n with h1 | ⟨d', h1, h2⟩
    · rw [h1] at hd; cases hd
    · rw [h1] at hd; injection hd with e; subst e; exact ⟨d'.isLt, h2⟩
  have := H ⟨c.toNat, c.toNat_lt⟩ d (by simpa using h)
  simpa using this

theorem div16_succ (v L : Nat) : v / 16 ^ L / 16 = v / 16 ^ (L + 1) := by
  rw [Nat.div_div_eq_div_mul, Nat.pow_succ]

theorem rd16_hexL : ∀ (l : List UInt8) (acc v : Nat), rd16 acc l = some v → hexL v l.length = l ∧ v / 16 ^ l.length = acc
  | [], acc, v, h => by
    injection h with e
    subst e
    exact ⟨rfl, by simp⟩
  | c :: cs, acc, v, h => by
    unfold rd16 at h
    rcases hd : ldig c with _ | d
    · rw [hd] at h; cases h
    · rw [hd] at h
      obtain ⟨h1, h2⟩ := rd16_hexL cs (acc * 16 + d) v h
      obtain ⟨hlt, hc⟩ := hexd_ldig hd
      rw [List.length_cons, hexL_succ, h1, h2, ← div16_succ, h2, show (acc * 16 + d) % 16 = d by omega, hc]
      exact ⟨rfl, by omega⟩

theorem read_hexL (v : Nat) (hv : v < 18446744073709551616) : ∀ (L acc : Nat), v / 16 ^ L = acc → rd16 acc (hexL v L) = some v ∧ read16 acc (hexL v L) = some (some v)
  | 0, acc, h => by
    have : acc = v := by rw [← h]; simp
    subst this
    exact ⟨rfl, rfl⟩
  | L + 1, acc, h => by
    have hd : v / 16 ^ L % 16 < 16 := Nat.mod_lt _ (by decide)
    have hs : acc * 16 + v / 16 ^ L % 16 = v / 16 ^ L := by rw [← h, ← div16_succ]; omega
    have hle : v / 16 ^ L ≤ v := Nat.div_le_self _ _
    have hlt : acc < 1152921504606846976 := by omega
    obtain ⟨h1, h2⟩ := read_hexL v hv L _ rfl
    rw [hexL_succ]
    unfold rd16 read16
    rw [ldig_hexd _ hd, dig16_hexd _ hd]
    show rd16 _ _ = _ ∧ (if _ then _ else _) = _
    rw [if_neg (by omega), hs]
    exact ⟨h1, h2⟩
theorem read_all {v : Nat} (hv : v < 18446744073709551616) : rd16 0 (hexL v 16) = some v ∧ read16 0 (hexL v 16) = some (some v) :=
  read_hexL v hv 16 0 (Nat.div_eq_of_lt (by rw [show 16 ^ 16 = 18446744073709551616 by decide]; exact hv))

/-- The bits of those that have a word. -/
def wordB (s : ByteArray) : Option Nat :=
  if s = ⟨#[48]⟩ then some 0 else if s = ⟨#[45, 48]⟩ then some 9223372036854775808 else if s = ⟨#[105, 110, 102]⟩ then some 9218868437227405312
  else if s = ⟨#[45, 105, 110, 102]⟩ then some 18442240474082181120 else if s = ⟨#[110, 97, 110]⟩ then some 9221120237041090560 else none
theorem word_cases {s : ByteArray} {b : Nat} (h : wordB s = some b) : (s = ⟨#[48]⟩ ∧ b = 0) ∨ (s = ⟨#[45, 48]⟩ ∧ b = 9223372036854775808) ∨ (s = ⟨#[105, 110, 102]⟩ ∧ b = 9218868437227405312) ∨ (s = ⟨#[45, 105, 110, 102]⟩ ∧ b = 18442240474082181120) ∨ (s = ⟨#[110, 97, 110]⟩ ∧ b = 9221120237041090560) := by
  unfold wordB at h
  split at h
  · injection h with e; exact .inl ⟨‹_›, e.symm⟩
  split at h
  · injection h with e; exact .inr (.inl ⟨‹_›, e.symm⟩)
  split at h
  · injection h with e; exact .inr (.inr (.inl ⟨‹_›, e.symm⟩))
  split at h
  · injection h with e; exact .inr (.inr (.inr (.inl ⟨‹_›, e.symm⟩)))
  split at h
  · injection h with e; exact .inr (.inr (.inr (.inr ⟨‹_›, e.symm⟩)))
  · cases h
theorem word_txt {s : ByteArray} {b : Nat} (h : wordB s = some b) : txt b = s ∧ cbits b = b ∧ b < 18446744073709551616 := by
  rcases word_cases h with ⟨rfl, rfl⟩ | ⟨rfl, rfl⟩ | ⟨rfl, rfl⟩ | ⟨rfl, rfl⟩ | ⟨rfl, rfl⟩ <;> exact ⟨by decide +kernel, by decide, by decide⟩
/-- Of which kind canonical bits are: those of class 1 have no word. -/
theorem cls_word {c : Nat} (hc : c < 18446744073709551616) (h : cbits c = c) (h0 : c ≠ 0) (h1 : c ≠ 9223372036854775808) (h2 : c ≠ 9218868437227405312) (h3 : c ≠ 18442240474082181120) (h4 : c ≠ 9221120237041090560) : cls c = 1 := by
  have hn : nanB c = false := by
    rcases hb : nanB c with _ | _
    · rfl
    · rw [cbits_nan hb] at h; exact absurd h.symm h4
  have hn2 : ¬ 9218868437227405312 < c % 9223372036854775808 := by
    unfold nanB at hn
    exact of_decide_eq_false hn
  unfold cls
  rw [if_neg (by omega), if_pos (by omega)]
theorem cls_one {c : Nat} (h : cls c = 1) : cbits c = c ∧ txt c = hexS c 16 := by
  have h2 : c % 9223372036854775808 ≠ 0 ∧ c % 9223372036854775808 < 9218868437227405312 := by
    unfold cls at h
    split at h
    · cases h
    split at h
    · exact ⟨‹_›, ‹_›⟩
    split at h <;> cases h
  have hn : nanB c = false := by
    unfold nanB
    exact decide_eq_false (by omega)
  refine ⟨cbits_num hn, ?_⟩
  unfold txt
  rw [if_neg (by omega), if_neg (by omega), if_neg (by omega), if_neg (by omega), if_neg (by omega)]
theorem txt_cases (c : Nat) : (∃ s, wordB s = some c ∧ txt c = s) ∨ (c ≠ 0 ∧ c ≠ 9223372036854775808 ∧ c ≠ 9218868437227405312 ∧ c ≠ 18442240474082181120 ∧ c ≠ 9221120237041090560 ∧ txt c = hexS c 16) := by
  by_cases h0 : c = 0
  · subst h0; exact .inl ⟨⟨#[48]⟩, by decide, by decide⟩
  by_cases h1 : c = 9223372036854775808
  · subst h1; exact .inl ⟨⟨#[45, 48]⟩, by decide, by decide⟩
  by_cases h2 : c = 9218868437227405312
  · subst h2; exact .inl ⟨⟨#[105, 110, 102]⟩, by decide, by decide⟩
  by_cases h3 : c = 18442240474082181120
  · subst h3; exact .inl ⟨⟨#[45, 105, 110, 102]⟩, by decide, by decide⟩
  by_cases h4 : c = 9221120237041090560
  · subst h4; exact .inl ⟨⟨#[110, 97, 110]⟩, by decide, by decide⟩
  refine .inr ⟨h0, h1, h2, h3, h4, ?_⟩
  unfold txt
  rw [if_neg h0, if_neg h1, if_neg h2, if_neg h3, if_neg h4]
theorem hexS_toList (u L : Nat) : (hexS u L).data.toList = hexL u L := by simp [hexS]
theorem word_hexS (u : Nat) : wordB (hexS u 16) = none := by
  have hs := hexS_size u 16
  rcases h : wordB (hexS u 16) with _ | b
  · rfl
  · exfalso
    rcases word_cases h with ⟨e, _⟩ | ⟨e, _⟩ | ⟨e, _⟩ | ⟨e, _⟩ | ⟨e, _⟩ <;> rw [e] at hs <;> revert hs <;> decide

/-- What ParseUint says: none where it errs. -/
def pu16V (s : ByteArray) : Option Nat := if s.size = 0 then none else (read16 0 s.data.toList).getD none
theorem pu16V_hexS {u : Nat} (hu : u < 18446744073709551616) : pu16V (hexS u 16) = some u := by
  unfold pu16V
  rw [hexS_size, if_neg (by decide), hexS_toList, (read_all hu).2]
  rfl
theorem read16_lt : ∀ (l : List UInt8) (acc u : Nat), acc < 18446744073709551616 → read16 acc l = some (some u) → u < 18446744073709551616
  | [], acc, u, h, e => by injection e with e; injection e with e; omega
  | c :: cs, acc, u, h, e => by
    unfold read16 at e
    rcases hd : dig16 c with _ | d
    · rw [hd] at e; cases e
    · rw [hd] at e
      have := dig16_lt hd
      by_cases hc : 1152921504606846976 ≤ acc
      · simp only [if_pos hc] at e; cases e
      · simp only [if_neg hc] at e
        exact read16_lt cs _ u (by omega) e
theorem pu16V_lt {s : ByteArray} {u : Nat} (h : pu16V s = some u) : u < 18446744073709551616 := by
  unfold pu16V at h
  split at h
  · cases h
  · rcases hr : read16 0 s.data.toList with _ | _ | v
    · rw [hr] at h; cases h
    · rw [hr] at h; cases h
    · rw [hr] at h
      have e : v = u := by injection h
      subst e
      exact read16_lt _ _ _ (by decide) hr

/-- What Parse says. -/
def pv (s : ByteArray) : Option Nat :=
  match wordB s with
  | some b => some b
  | none => match pu16V s with
    | some u => if txt (cbits u) = s then some u else none
    | none => none
/-- What the document's answer says. -/
def rpv (s : ByteArray) : Option Nat :=
  match wordB s with
  | some b => some b
  | none => if s.size = 16 then match rd16 0 s.data.toList with
    | some v => if cls v = 1 then some v else none
    | none => none else none
theorem bytes_size (s : ByteArray) : s.data.toList.length = s.size := (Lib.size_eq s).symm
theorem pv_rpv (s : ByteArray) : pv s = rpv s := by
  unfold pv rpv
  rcases hw : wordB s with _ | b
  case some => rfl
  show (match pu16V s with | some u => if txt (cbits u) = s then some u else none | none => none) = if s.size = 16 then (match rd16 0 s.data.toList with | some v => if cls v = 1 then some v else none | none => none) else none
  by_cases hT : ∃ u, pu16V s = some u ∧ txt (cbits u) = s
  · obtain ⟨u, h1, h2⟩ := hT
    have hu := pu16V_lt h1
    rw [h1]
    simp only [if_pos h2]
    rcases txt_cases (cbits u) with ⟨s', h3, h4⟩ | ⟨n0, n1, n2, n3, n4, h4⟩
    · rw [← h4, h2, hw] at h3; cases h3
    · have hc := cbits_lt hu
      rw [h4] at h2
      have h5 := pu16V_hexS hc
      rw [h2, h1] at h5
      have h6 : u = cbits u := by injection h5
      rw [← h6] at h2 n0 n1 n2 n3 n4
      rw [← h2, hexS_size, if_pos rfl, hexS_toList, (read_all hu).1]
      show some u = if cls u = 1 then some u else none
      rw [if_pos (cls_word hu h6.symm n0 n1 n2 n3 n4)]
  · have hL : (match pu16V s with | some u => if txt (cbits u) = s then some u else none | none => none) = none := by
      rcases h1 : pu16V s with _ | u
      · rfl
      · show (if txt (cbits u) = s then some u else none) = none
        rw [if_neg (fun h => hT ⟨u, h1, h⟩)]
    rw [hL]
    split
    · rename_i h16
      rcases hr : rd16 0 s.data.toList with _ | v
      · rfl
      · show none = if cls v = 1 then some v else none
        rw [if_neg]
        intro hcl
        obtain ⟨h1, h2⟩ := rd16_hexL _ _ _ hr
        rw [bytes_size, h16] at h1 h2
        have hv : v < 18446744073709551616 := by
          rcases Nat.lt_or_ge v 18446744073709551616 with h | h
          · exact h
          · exfalso
            have : 1 ≤ v / 16 ^ 16 := (Nat.le_div_iff_mul_le (by decide)).2 (by rw [show 16 ^ 16 = 18446744073709551616 by decide]; omega)
            omega
        have hs : hexS v 16 = s := by
          apply ByteArray.ext
          show (hexL v 16).toArray = s.data
          rw [h1]
        obtain ⟨h3, h4⟩ := cls_one hcl
        apply hT
        refine ⟨v, ?_, ?_⟩
        · rw [← hs]; exact pu16V_hexS hv
        · rw [h3, h4, hs]
    · rfl
/-- The text of any bits is read as these bits, made canonical. -/
theorem pv_txt {n : Nat} (hn : n < 18446744073709551616) : pv (txt (cbits n)) = some (cbits n) := by
  have hc := cbits_lt hn
  rcases txt_cases (cbits n) with ⟨s, h1, h2⟩ | ⟨_, _, _, _, _, h2⟩
  · rw [h2]
    unfold pv
    rw [h1]
  · have hcc : cbits (cbits n) = cbits n := by
      rcases h : nanB n with _ | _
      · rw [cbits_num h, cbits_num h]
      · rw [cbits_nan h]; decide
    unfold pv
    rw [h2, word_hexS, pu16V_hexS hc]
    show (if txt (cbits (cbits n)) = hexS (cbits n) 16 then some (cbits n) else none) = some (cbits n)
    rw [hcc, h2, if_pos rfl]
end Go.Proofs.YtfcjdgjjicfheaaDoor
