/-
  Contracts of octet's reading functions.
-/
import Derived.Test.YtedhecbcpcmlmaaOctW
import Derived.Test.YtedhecbcpcmlmaaCrcS
namespace Go.Proofs.Ytedhecbcpcmlmaa
open Go.RowKit

/-- An In lies in block b: what is left, and the first error's number. -/
structure InAt (w : World) (b : Nat) (s : ByteArray) (er : Nat) : Prop where
  lt : b < w.heap.size
  c0 : w.cell? ⟨b, 0, none⟩ = some (.string s)
  c1 : w.cell? ⟨b, 1, none⟩ = some (.int .i64 (er : Int))
  f0 : w.frozen? ⟨b, 0, none⟩ = false
  f1 : w.frozen? ⟨b, 1, none⟩ = false
  sz : s.size ≤ maxLen

/-- Nothing that was there has turned but block b. -/
def But (b : Nat) (w w' : World) : Prop := w.grownBy w' (some b)
theorem But.refl (b : Nat) (w : World) : But b w w := ⟨rfl, rfl, rfl, Nat.le_refl _, fun _ _ _ => rfl⟩
theorem But.trans {b : Nat} {w w1 w2 : World} (h : But b w w1) (k : But b w1 w2) : But b w w2 :=
  ⟨k.os.trans h.os, k.tape.trans h.tape, k.output.trans h.output, Nat.le_trans h.size k.size, fun i hi hne => (k.block i (Nat.lt_of_lt_of_le hi h.size) hne).trans (h.block i hi hne)⟩
theorem But.set (b : Nat) (w : World) (o : Nat) (v : Value) : But b w (w.setCell ⟨b, o, none⟩ v) :=
  ⟨rfl, rfl, rfl, by simp, fun i _ hne => Below.heap_setCell w ⟨b, o, none⟩ v i (fun e => hne (by rw [e]))⟩
theorem But.keeps {b : Nat} {w w' : World} (h : Reg.Keeps w w') : But b w w' := ⟨h.os, h.tape, h.output, h.size, fun i hi _ => h.block i hi⟩
theorem But.below {b B : Nat} {w w' : World} (h : But b w w') (hb : B ≤ b) (hB : B ≤ w.heap.size) : Below B w w' :=
  ⟨h.os, h.tape, h.output, h.size, fun i hi => h.block i (Nat.lt_of_lt_of_le hi hB) (fun e => by injection e with e; omega)⟩
theorem InAt.keeps {w w' : World} {b : Nat} {s : ByteArray} {er : Nat} (hk : Reg.Keeps w w') (h : InAt w b s er) : InAt w' b s er :=
  ⟨Nat.lt_of_lt_of_le h.lt hk.size, by rw [hk.cell (p := ⟨b, 0, none⟩) h.lt]; exact h.c0, by rw [hk.cell (p := ⟨b, 1, none⟩) h.lt]; exact h.c1,
   by rw [hk.frozen (p := ⟨b, 0, none⟩) h.lt]; exact h.f0, by rw [hk.frozen (p := ⟨b, 1, none⟩) h.lt]; exact h.f1, h.sz⟩
theorem InAt.set0 {w : World} {b : Nat} {s : ByteArray} {er : Nat} (h : InAt w b s er) (s' : ByteArray) (hs : s'.size ≤ maxLen) : InAt (w.setCell ⟨b, 0, none⟩ (.string s')) b s' er :=
  ⟨by rw [World.size_setCell]; exact h.lt, World.cell?_setCell_same _ _ _ h.c0, by rw [World.cell?_setCell_other _ _ _ _ (by intro e; injection e with _ e2 _; omega)]; exact h.c1,
   by rw [World.frozen?_setCell]; exact h.f0, by rw [World.frozen?_setCell]; exact h.f1, hs⟩
theorem InAt.set1 {w : World} {b : Nat} {s : ByteArray} {er : Nat} (h : InAt w b s er) (er' : Nat) : InAt (w.setCell ⟨b, 1, none⟩ (.int .i64 (er' : Int))) b s er' :=
  ⟨by rw [World.size_setCell]; exact h.lt, by rw [World.cell?_setCell_other _ _ _ _ (by intro e; injection e with _ e2 _; omega)]; exact h.c0, World.cell?_setCell_same _ _ _ h.c1,
   by rw [World.frozen?_setCell]; exact h.f0, by rw [World.frozen?_setCell]; exact h.f1, h.sz⟩

/-- The first error stays. -/
def eOr (er k : Nat) : Nat := if er = 0 then k else er
theorem eOr_zero (k : Nat) : eOr 0 k = k := rfl
theorem eOr_ne {er : Nat} (k : Nat) (h : er ≠ 0) : eOr er k = er := if_neg h

set_option maxHeartbeats 400000 in
theorem of_any (s : ByteArray) (w : World) (hs : s.size ≤ maxLen) :
    Calls Try.prog 15 #[.string s] w fun e w' => e = .returned (.pointer (some ⟨w.heap.size, 0, none⟩)) ∧ InAt w' w.heap.size s 0 ∧ Reg.Keeps w w' := by
  go_enter Try.func15, Try.ntmps15
  go_wp2
  go_ret
  refine ⟨rfl, ⟨by simp, by simp, by simp, by simp, by simp, hs⟩, (Reg.Keeps.refl _).alloc _⟩

set_option maxHeartbeats 400000 in
theorem fail_any (b : Nat) (s : ByteArray) (er k : Nat) (w : World) (h : InAt w b s er) :
    Calls Try.prog 55 #[.pointer (some ⟨b, 0, none⟩), .int .i64 (k : Int)] w fun e w' => e = .returned (.tuple #[]) ∧ InAt w' b ByteArray.empty (eOr er k) ∧ But b w w' := by
  have c0 := h.c0
  have c1 := h.c1
  have f0 := h.f0
  have f1 := h.f1
  by_cases he : er = 0
  · subst he
    rw [eOr_zero]
    have hc := (h.set1 k).c0
    go_enter Try.func55, Try.ntmps55
    go_wp2
    go_end0
    exact ⟨rfl, (h.set1 k).set0 _ (by decide), (But.set _ _ _ _).trans (But.set _ _ _ _)⟩
  · have he2 : ((er : Int) == 0) = false := by simp; omega
    rw [eOr_ne k he]
    go_enter Try.func55, Try.ntmps55
    go_wp2
    go_end0
    exact ⟨rfl, h.set0 _ (by decide), But.set _ _ _ _⟩

set_option maxHeartbeats 400000 in
theorem take_any (b : Nat) (s : ByteArray) (er n : Nat) (w : World) (h : InAt w b s er) (hn : n ≤ s.size) :
    Calls Try.prog 56 #[.pointer (some ⟨b, 0, none⟩), .int .i64 (n : Int)] w fun e w' => e = .returned (.string (s.extract 0 n)) ∧ InAt w' b (s.extract n s.size) er ∧ But b w w' := by
  have c0 := h.c0
  have f0 := h.f0
  have hs := h.sz
  unfold maxLen at hs
  go_enter Try.func56, Try.ntmps56
  go_wp2
  go_ret
  exact ⟨rfl, h.set0 _ (by unfold maxLen; simp; omega), But.set _ _ _ _⟩

/-- Bytes: what is taken, what is left, the error. -/
def pBytes (s : ByteArray) (er : Nat) (n : Int) : ByteArray × ByteArray × Nat :=
  if n < 1 then (ByteArray.empty, s, er)
  else if (s.size : Int) < n then (ByteArray.empty, ByteArray.empty, eOr er 1)
  else (s.extract 0 n.toNat, s.extract n.toNat s.size, er)

set_option maxHeartbeats 400000 in
theorem bytes_any (b : Nat) (s : ByteArray) (er : Nat) (n : Int) (w : World) (h : InAt w b s er) :
    Calls Try.prog 37 #[.pointer (some ⟨b, 0, none⟩), .int .i64 n] w fun e w' => e = .returned (.string (pBytes s er n).1) ∧ InAt w' b (pBytes s er n).2.1 (pBytes s er n).2.2 ∧ But b w w' := by
  have c0 := h.c0
  have hs := h.sz
  unfold maxLen at hs
  by_cases h1 : n < 1
  · have e : pBytes s er n = (ByteArray.empty, s, er) := by unfold pBytes; rw [if_pos h1]
    rw [e]
    go_enter Try.func37, Try.ntmps37
    go_wp2
    go_ret
    exact ⟨rfl, h, But.refl _ _⟩
  · by_cases h2 : (s.size : Int) < n
    · have e : pBytes s er n = (ByteArray.empty, ByteArray.empty, eOr er 1) := by unfold pBytes; rw [if_neg h1, if_pos h2]
      rw [e]
      go_enter Try.func37, Try.ntmps37
      go_wp2_with fail
      refine (fail_any b s er 1 _ h).mono ?_
      rintro e w' ⟨rfl, hi, hbut⟩
      go_wp2
      go_ret
      exact ⟨rfl, hi, hbut⟩
    · obtain ⟨m, rfl⟩ := Int.eq_ofNat_of_zero_le (show 0 ≤ n by omega)
      have e : pBytes s er (m : Int) = (s.extract 0 m, s.extract m s.size, er) := by unfold pBytes; rw [if_neg h1, if_neg h2]; simp
      rw [e]
      go_enter Try.func37, Try.ntmps37
      go_wp2_with fail
      refine (take_any b s er m _ h (by omega)).mono ?_
      rintro e w' ⟨rfl, hi, hbut⟩
      go_wp2
      go_ret
      exact ⟨rfl, hi, hbut⟩

set_option maxHeartbeats 400000 in
theorem err_any (b : Nat) (s : ByteArray) (er : Nat) (w : World) (h : InAt w b s er) :
    Calls Try.prog 35 #[.pointer (some ⟨b, 0, none⟩)] w fun e w' => e = .returned (.int .i64 (er : Int)) ∧ w' = w := by
  have c1 := h.c1
  go_enter Try.func35, Try.ntmps35
  go_wp2
  go_ret
  exact ⟨rfl, rfl⟩

set_option maxHeartbeats 400000 in
theorem left_any (b : Nat) (s : ByteArray) (er : Nat) (w : World) (h : InAt w b s er) :
    Calls Try.prog 34 #[.pointer (some ⟨b, 0, none⟩)] w fun e w' => e = .returned (.int .i64 (s.size : Int)) ∧ w' = w := by
  have c0 := h.c0
  go_enter Try.func34, Try.ntmps34
  go_wp2
  go_ret
  exact ⟨rfl, rfl⟩

theorem extract_end (s : ByteArray) : s.extract s.size s.size = ByteArray.empty := by
  apply ByteArray.ext; simp

set_option maxHeartbeats 400000 in
theorem rest_any (b : Nat) (s : ByteArray) (er : Nat) (w : World) (h : InAt w b s er) :
    Calls Try.prog 36 #[.pointer (some ⟨b, 0, none⟩)] w fun e w' => e = .returned (.string s) ∧ InAt w' b ByteArray.empty er ∧ But b w w' := by
  have c0 := h.c0
  go_enter Try.func36, Try.ntmps36
  go_wp2_with fail
  refine (take_any b s er s.size _ h (Nat.le_refl _)).mono ?_
  rintro e w' ⟨rfl, hi, hbut⟩
  rw [extract_all s s.size (Nat.le_refl _)]
  rw [extract_end] at hi
  go_wp2
  go_ret
  exact ⟨rfl, hi, hbut⟩

/-- End: the error behind it. -/
def pEnd (s : ByteArray) (er : Nat) : Nat := if 0 < s.size then eOr er 2 else er

set_option maxHeartbeats 400000 in
theorem end_any (b : Nat) (s : ByteArray) (er : Nat) (w : World) (h : InAt w b s er) :
    Calls Try.prog 33 #[.pointer (some ⟨b, 0, none⟩)] w fun e w' => e = .returned (.int .i64 (pEnd s er : Nat)) ∧ InAt w' b ByteArray.empty (pEnd s er) ∧ But b w w' := by
  have c0 := h.c0
  have hs := h.sz
  unfold maxLen at hs
  by_cases h1 : 0 < s.size
  · have e : pEnd s er = eOr er 2 := if_pos h1
    rw [e]
    clear e
    go_enter Try.func33, Try.ntmps33
    go_wp2_with fail
    refine (fail_any b s er 2 _ h).mono ?_
    rintro e w' ⟨rfl, hi, hbut⟩
    have c1 := hi.c1
    clear c0
    go_wp2
    go_ret
    exact ⟨rfl, hi, hbut⟩
  · have e : pEnd s er = er := if_neg h1
    rw [e]
    clear e
    have c1 := h.c1
    have e0 : s = ByteArray.empty := by
      apply ByteArray.ext
      have : s.data.size = 0 := by have : s.size = s.data.size := rfl; omega
      rw [Array.eq_empty_of_size_eq_zero this]; rfl
    go_enter Try.func33, Try.ntmps33
    go_wp2
    go_ret
    exact ⟨rfl, e0 ▸ h, But.refl _ _⟩
end Go.Proofs.Ytedhecbcpcmlmaa
