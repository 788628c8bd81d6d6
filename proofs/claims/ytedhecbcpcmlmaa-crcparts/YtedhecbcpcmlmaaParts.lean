import Derived.Test.YtedhecbcpcmlmaaCrcS
namespace Go.Proofs.Ytedhecbcpcmlmaa
open Go.RowKit

theorem clamp_lo (n : Nat) (i : Int) : ∃ (m : Int) (p : Nat), (if (n : Int) < i then (n : Int) else i) = m ∧ (if 0 < m then m else 0) = (p : Int) ∧ p ≤ n := by
  refine ⟨_, (if 0 < (if (n : Int) < i then (n : Int) else i) then (if (n : Int) < i then (n : Int) else i) else 0).toNat, rfl, ?_, ?_⟩ <;> split <;> split <;> omega
theorem clamp_hi (n p : Nat) (hp : p ≤ n) (j : Int) : ∃ (m : Int) (q : Nat), (if (n : Int) < j then (n : Int) else j) = m ∧ (if (p : Int) < m then m else (p : Int)) = (q : Int) ∧ p ≤ q ∧ q ≤ n := by
  refine ⟨_, (if (p : Int) < (if (n : Int) < j then (n : Int) else j) then (if (n : Int) < j then (n : Int) else j) else (p : Int)).toNat, rfl, ?_, ?_, ?_⟩ <;> split <;> split <;> omega

def partsR (t : ByteArray) (p q b z y : Nat) : List (Value → World → Prop) :=
  [fun v _ => v = .pointer (some ⟨b, 0, none⟩),
   fun v _ => v = .string t,
   fun v _ => v = .int .i64 (p : Int),
   fun v _ => v = .string (t.extract 0 p),
   fun v _ => v = .string t,
   fun v _ => v = .int .i64 (p : Int),
   fun v _ => v = .int .i64 (q : Int),
   fun v _ => v = .string (t.extract p q),
   fun v _ => v = .string t,
   fun v _ => v = .int .i64 (q : Int),
   fun v _ => v = .string (t.extract q t.size),
   Reg.OwnSl [.string (t.extract 0 p), .string (t.extract p q), .string (t.extract q t.size)],
   fun v _ => v = .int .u32 (z : Int),
   fun v _ => v = .pointer (some ⟨b, 0, none⟩),
   fun v _ => v = .string t,
   Reg.OwnSl [.string t],
   fun v _ => v = .int .u32 (z : Int),
   fun v _ => v = .bool true,
   fun v _ => v = .bool true,
   fun v _ => v = .pointer (some ⟨b, 0, none⟩),
   fun v _ => v = .pointer (some ⟨b, 0, none⟩),
   fun v _ => v = .string t,
   fun v _ => v = .int .i64 (p : Int),
   fun v _ => v = .string (t.extract 0 p),
   Reg.OwnSl [.string (t.extract 0 p)],
   fun v _ => v = .int .u32 (y : Int),
   fun v _ => v = .string t,
   fun v _ => v = .int .i64 (p : Int),
   fun v _ => v = .string (t.extract p t.size),
   fun v _ => v = .int .u32 (z : Int),
   fun v _ => v = .pointer (some ⟨b, 0, none⟩),
   fun v _ => v = .string t,
   Reg.OwnSl [.string t],
   fun v _ => v = .int .u32 (z : Int),
   fun v _ => v = .bool true,
   fun v _ => v = .bool true,
   fun v _ => v = .bool true]
theorem partsR_kept (t : ByteArray) (p q b z y : Nat) : Reg.AllKept Reg.Keeps (partsR t p q b z y) :=
  ⟨(fun _ _ _ _ h => h), (fun _ _ _ _ h => h), (fun _ _ _ _ h => h), (fun _ _ _ _ h => h), (fun _ _ _ _ h => h), (fun _ _ _ _ h => h), (fun _ _ _ _ h => h), (fun _ _ _ _ h => h), (fun _ _ _ _ h => h), (fun _ _ _ _ h => h), (fun _ _ _ _ h => h), (fun _ _ _ => Reg.OwnSl.keeps), (fun _ _ _ _ h => h), (fun _ _ _ _ h => h), (fun _ _ _ _ h => h), (fun _ _ _ => Reg.OwnSl.keeps), (fun _ _ _ _ h => h), (fun _ _ _ _ h => h), (fun _ _ _ _ h => h), (fun _ _ _ _ h => h), (fun _ _ _ _ h => h), (fun _ _ _ _ h => h), (fun _ _ _ _ h => h), (fun _ _ _ _ h => h), (fun _ _ _ => Reg.OwnSl.keeps), (fun _ _ _ _ h => h), (fun _ _ _ _ h => h), (fun _ _ _ _ h => h), (fun _ _ _ _ h => h), (fun _ _ _ _ h => h), (fun _ _ _ _ h => h), (fun _ _ _ _ h => h), (fun _ _ _ => Reg.OwnSl.keeps), (fun _ _ _ _ h => h), (fun _ _ _ _ h => h), (fun _ _ _ _ h => h), (fun _ _ _ _ h => h), trivial⟩

set_option maxRecDepth 10000 in
set_option maxHeartbeats 1000000 in
theorem crcParts_any (s : ByteArray) (i j : Int) (w : World) (hs : s.size ≤ maxLen) :
    Calls Try.prog 9 #[.string s, .int .i64 i, .int .i64 j] w fun e w' => e = .returned (.bool true) ∧ Below w.heap.size w w' := by
  go_enter Try.func9, Try.ntmps9
  go_wp2_with fail
  refine (cut_any s 300 _ hs).mono ?_
  rintro e w1 ⟨rfl, rfl⟩
  have hs2 : (s.extract 0 300).size ≤ 300 := by rw [extract_size]; omega
  generalize s.extract 0 300 = t at *
  go_wp2_with fail
  refine (awake2_any _).mono ?_
  rintro e w2 ⟨rfl, hb2⟩
  obtain ⟨m, p, e1, e2, hp⟩ := clamp_lo t.size i
  obtain ⟨m2, q, e3, e4, hpq, hq⟩ := clamp_hi t.size p hp j
  go_wp2_with fail
  refine (make_any _).mono ?_
  rintro e w3 ⟨b, rfl, hb3, hb4, hb5, ht⟩
  have Ht : Hid (TabAt w3 b) := ht
  clear ht e1 e2 e3 e4
  go_wp2_with fail
  have l0 : t.size ≤ maxLen := by unfold maxLen; omega
  have l1 : (t.extract 0 p).size ≤ maxLen := by unfold maxLen; simp; omega
  have l2 : (t.extract p q).size ≤ maxLen := by unfold maxLen; simp; omega
  have l3 : (t.extract q t.size).size ≤ maxLen := by unfold maxLen; simp; omega
  have l123 : (t.extract 0 p).size ≤ maxLen ∧ (t.extract p q).size ≤ maxLen ∧ (t.extract q t.size).size ≤ maxLen := ⟨l1, l2, l3⟩
  have l4 : (t.extract p t.size).size ≤ maxLen := by unfold maxLen; simp; omega
  have Hz : ∃ z, Hid (Crc.more 0 t.data.toList = z) := ⟨_, rfl⟩
  obtain ⟨z, Hz⟩ := Hz
  have Hy : ∃ y, Hid (Crc.more 0 (t.extract 0 p).data.toList = y) ∧ y < 4294967296 := ⟨_, rfl, Crc.more_lt _ _⟩
  obtain ⟨y, Hy, hyl⟩ := Hy
  have H3 : Hid (Crc.sumAll 0 [(t.extract 0 p).data.toList, (t.extract p q).data.toList, (t.extract q t.size).data.toList] = z) := by
    show Crc.more (Crc.more (Crc.more 0 _) _) _ = _
    rw [← Hz.out, ← Crc.more_append, ← Crc.more_append, ← List.append_assoc, three_parts t p q hpq]
  have H2 : Hid (Crc.more y (t.extract p t.size).data.toList = z) := by
    show _ = _
    rw [← Hz.out, ← Hy.out, ← Crc.more_append, two_parts t p]
  have hrefl : ∀ w : World, Reg.Keeps w w := Reg.Keeps.refl
  refine Reg.wp_region_props (Reg.ofList (partsR t p q b z y)) Reg.Keeps (fun _ w => Reg.Keeps w3 w) (by kernel_rfl) (by kernel_rfl) (Reg.AllKept.at _ (partsR_kept t p q b z y)) hrefl ((Reg.Keeps.refl _).drewN 1) ⟨?_, ?_, ?_, ?_, ?_, ?_, ?_, ?_, ?_, ?_, ?_, ?_, ?_, ?_, ?_, ?_, ?_, ?_, ?_, ?_, ?_, ?_, ?_, ?_, ?_, ?_, ?_, ?_, ?_, ?_, ?_, ?_, ?_, ?_, ?_, ?_, ?_, trivial⟩ ?_
  · refine Reg.StepAt.plain (i := 0) rfl ?_
    intro L ev w hI hk hp hA
    have e7 : ev (.tmp 7) = .pointer (some ⟨b, 0, none⟩) := hA.oldNone 7 (by kernel_rfl)
    have hcc := hA.const
    clear hA hp
    refine Reg.out_value (v := .pointer (some ⟨b, 0, none⟩)) ?_ ⟨rfl, hrefl _, hI⟩
    go_simp
  · refine Reg.StepAt.plain (i := 1) rfl ?_
    intro L ev w hI hk hp hA
    have e0 : ev (.tmp 0) = .string t := hA.oldNone 0 (by kernel_rfl)
    have hcc := hA.const
    clear hA hp
    refine Reg.out_value (v := .string t) ?_ ⟨rfl, hrefl _, hI⟩
    go_simp
  · refine Reg.StepAt.plain (i := 2) rfl ?_
    intro L ev w hI hk hp hA
    have e1 : ev (.tmp 1) = .int .i64 (p : Int) := hA.oldNone 1 (by kernel_rfl)
    have hcc := hA.const
    clear hA hp
    refine Reg.out_value (v := .int .i64 (p : Int)) ?_ ⟨rfl, hrefl _, hI⟩
    go_simp
  · refine Reg.StepAt.plain (i := 3) rfl ?_
    intro L ev w hI hk hp hA
    have e25 : ev (.tmp 25) = .string t := hA.val 1 _ 25 rfl (hp ⟨1, .data⟩ (by simp) rfl) rfl
    have e26 : ev (.tmp 26) = .int .i64 (p : Int) := hA.val 2 _ 26 rfl (hp ⟨2, .data⟩ (by simp) rfl) rfl
    have hcc := hA.const
    clear hA hp
    refine Reg.out_value (v := .string (t.extract 0 p)) ?_ ⟨rfl, hrefl _, hI⟩
    go_simp
  · refine Reg.StepAt.plain (i := 4) rfl ?_
    intro L ev w hI hk hp hA
    have e0 : ev (.tmp 0) = .string t := hA.oldNone 0 (by kernel_rfl)
    have hcc := hA.const
    clear hA hp
    refine Reg.out_value (v := .string t) ?_ ⟨rfl, hrefl _, hI⟩
    go_simp
  · refine Reg.StepAt.plain (i := 5) rfl ?_
    intro L ev w hI hk hp hA
    have e1 : ev (.tmp 1) = .int .i64 (p : Int) := hA.oldNone 1 (by kernel_rfl)
    have hcc := hA.const
    clear hA hp
    refine Reg.out_value (v := .int .i64 (p : Int)) ?_ ⟨rfl, hrefl _, hI⟩
    go_simp
  · refine Reg.StepAt.plain (i := 6) rfl ?_
    intro L ev w hI hk hp hA
    have e2 : ev (.tmp 2) = .int .i64 (q : Int) := hA.oldNone 2 (by kernel_rfl)
    have hcc := hA.const
    clear hA hp
    refine Reg.out_value (v := .int .i64 (q : Int)) ?_ ⟨rfl, hrefl _, hI⟩
    go_simp
  · refine Reg.StepAt.plain (i := 7) rfl ?_
    intro L ev w hI hk hp hA
    have e28 : ev (.tmp 28) = .string t := hA.val 4 _ 28 rfl (hp ⟨4, .data⟩ (by simp) rfl) rfl
    have e29 : ev (.tmp 29) = .int .i64 (p : Int) := hA.val 5 _ 29 rfl (hp ⟨5, .data⟩ (by simp) rfl) rfl
    have e30 : ev (.tmp 30) = .int .i64 (q : Int) := hA.val 6 _ 30 rfl (hp ⟨6, .data⟩ (by simp) rfl) rfl
    have hcc := hA.const
    clear hA hp
    refine Reg.out_value (v := .string (t.extract p q)) ?_ ⟨rfl, hrefl _, hI⟩
    go_simp
  · refine Reg.StepAt.plain (i := 8) rfl ?_
    intro L ev w hI hk hp hA
    have e0 : ev (.tmp 0) = .string t := hA.oldNone 0 (by kernel_rfl)
    have hcc := hA.const
    clear hA hp
    refine Reg.out_value (v := .string t) ?_ ⟨rfl, hrefl _, hI⟩
    go_simp
  · refine Reg.StepAt.plain (i := 9) rfl ?_
    intro L ev w hI hk hp hA
    have e2 : ev (.tmp 2) = .int .i64 (q : Int) := hA.oldNone 2 (by kernel_rfl)
    have hcc := hA.const
    clear hA hp
    refine Reg.out_value (v := .int .i64 (q : Int)) ?_ ⟨rfl, hrefl _, hI⟩
    go_simp
  · refine Reg.StepAt.plain (i := 10) rfl ?_
    intro L ev w hI hk hp hA
    have e32 : ev (.tmp 32) = .string t := hA.val 8 _ 32 rfl (hp ⟨8, .data⟩ (by simp) rfl) rfl
    have e33 : ev (.tmp 33) = .int .i64 (q : Int) := hA.val 9 _ 33 rfl (hp ⟨9, .data⟩ (by simp) rfl) rfl
    have hcc := hA.const
    clear hA hp
    refine Reg.out_value (v := .string (t.extract q t.size)) ?_ ⟨rfl, hrefl _, hI⟩
    go_simp
  · refine Reg.StepAt.plain (i := 11) rfl ?_
    intro L ev w hI hk hp hA
    have e27 : ev (.tmp 27) = .string (t.extract 0 p) := hA.val 3 _ 27 rfl (hp ⟨3, .data⟩ (by simp) rfl) rfl
    have e31 : ev (.tmp 31) = .string (t.extract p q) := hA.val 7 _ 31 rfl (hp ⟨7, .data⟩ (by simp) rfl) rfl
    have e34 : ev (.tmp 34) = .string (t.extract q t.size) := hA.val 10 _ 34 rfl (hp ⟨10, .data⟩ (by simp) rfl) rfl
    have hcc := hA.const
    clear hA hp
    refine Reg.out_new (v := .slice (some ⟨w.heap.size, 0, none⟩) 3 3) (w' := w.alloc (.cells #[.string (t.extract 0 p), .string (t.extract p q), .string (t.extract q t.size)] 9)) ?_ ?_
    · go_simp
    · exact ⟨Reg.OwnSl.new [.string (t.extract 0 p), .string (t.extract p q), .string (t.extract q t.size)] w 9 3 rfl, (Reg.Keeps.refl _).alloc _, hI.alloc _⟩
  · refine Reg.StepAt.plain (i := 12) rfl ?_
    intro L ev w hI hk hp hA
    have e24 : ev (.tmp 24) = .pointer (some ⟨b, 0, none⟩) := hA.val 0 _ 24 rfl (hp ⟨0, .data⟩ (by simp) rfl) rfl
    have e35 : (Reg.OwnSl [.string (t.extract 0 p), .string (t.extract p q), .string (t.extract q t.size)]) (ev (.tmp 35)) w := hA.val 11 _ 35 rfl (hp ⟨11, .data⟩ (by simp) rfl) rfl
    have hcc := hA.const
    have hcf := hA.func
    clear hA hp
    refine Reg.out_call (f := 43) (args := #[.pointer (some ⟨b, 0, none⟩), ev (.tmp 35)]) (w0 := w) ?_ ?_
    · go_simp
    refine (sum_of b [t.extract 0 p, t.extract p q, t.extract q t.size] z _ w (TabAt.of Ht hb4 hI) (by simp) (by simpa using l123) H3 e35).mono ?_
    rintro e w' ⟨rfl, n, rfl⟩
    exact ⟨_, rfl, rfl, (Reg.Keeps.refl _).drewN n, hI.drewN n⟩
  · refine Reg.StepAt.plain (i := 13) rfl ?_
    intro L ev w hI hk hp hA
    have e7 : ev (.tmp 7) = .pointer (some ⟨b, 0, none⟩) := hA.oldNone 7 (by kernel_rfl)
    have hcc := hA.const
    clear hA hp
    refine Reg.out_value (v := .pointer (some ⟨b, 0, none⟩)) ?_ ⟨rfl, hrefl _, hI⟩
    go_simp
  · refine Reg.StepAt.plain (i := 14) rfl ?_
    intro L ev w hI hk hp hA
    have e0 : ev (.tmp 0) = .string t := hA.oldNone 0 (by kernel_rfl)
    have hcc := hA.const
    clear hA hp
    refine Reg.out_value (v := .string t) ?_ ⟨rfl, hrefl _, hI⟩
    go_simp
  · refine Reg.StepAt.plain (i := 15) rfl ?_
    intro L ev w hI hk hp hA
    have e38 : ev (.tmp 38) = .string t := hA.val 14 _ 38 rfl (hp ⟨14, .data⟩ (by simp) rfl) rfl
    have hcc := hA.const
    clear hA hp
    refine Reg.out_new (v := .slice (some ⟨w.heap.size, 0, none⟩) 1 1) (w' := w.alloc (.cells #[.string t] 9)) ?_ ?_
    · go_simp
    · exact ⟨Reg.OwnSl.new [.string t] w 9 1 rfl, (Reg.Keeps.refl _).alloc _, hI.alloc _⟩
  · refine Reg.StepAt.plain (i := 16) rfl ?_
    intro L ev w hI hk hp hA
    have e37 : ev (.tmp 37) = .pointer (some ⟨b, 0, none⟩) := hA.val 13 _ 37 rfl (hp ⟨13, .data⟩ (by simp) rfl) rfl
    have e39 : (Reg.OwnSl [.string t]) (ev (.tmp 39)) w := hA.val 15 _ 39 rfl (hp ⟨15, .data⟩ (by simp) rfl) rfl
    have hcc := hA.const
    have hcf := hA.func
    clear hA hp
    refine Reg.out_call (f := 43) (args := #[.pointer (some ⟨b, 0, none⟩), ev (.tmp 39)]) (w0 := w) ?_ ?_
    · go_simp
    refine (sum_of b [t] z _ w (TabAt.of Ht hb4 hI) (by simp) (by simpa using l0) Hz e39).mono ?_
    rintro e w' ⟨rfl, n, rfl⟩
    exact ⟨_, rfl, rfl, (Reg.Keeps.refl _).drewN n, hI.drewN n⟩
  · refine Reg.StepAt.plain (i := 17) rfl ?_
    intro L ev w hI hk hp hA
    have e36 : ev (.tmp 36) = .int .u32 (z : Int) := hA.val 12 _ 36 rfl (hp ⟨12, .data⟩ (by simp) rfl) rfl
    have e40 : ev (.tmp 40) = .int .u32 (z : Int) := hA.val 16 _ 40 rfl (hp ⟨16, .data⟩ (by simp) rfl) rfl
    have hcc := hA.const
    clear hA hp
    refine Reg.out_value (v := .bool true) ?_ ⟨rfl, hrefl _, hI⟩
    go_simp
  · refine Reg.StepAt.plain (i := 18) rfl ?_
    intro L ev w hI hk hp hA
    have e41 : ev (.tmp 41) = .bool true := hA.val 17 _ 41 rfl (hp ⟨17, .data⟩ (by simp) rfl) rfl
    have hcc := hA.const
    clear hA hp
    refine Reg.out_value (v := .bool true) ?_ ⟨rfl, hrefl _, hI⟩
    go_simp
  · refine Reg.StepAt.guarded (i := 19) rfl ?_
    intro L ev w hI hk hp hA
    have e7 : ev (.tmp 7) = .pointer (some ⟨b, 0, none⟩) := hA.oldNone 7 (by kernel_rfl)
    have eg : ev (.tmp 42) = .bool true := hA.val 18 _ 42 rfl (hp ⟨18, .guard⟩ (by simp) rfl) rfl
    refine ⟨_, 42, true, rfl, rfl, eg, ?_⟩
    rw [if_pos rfl]
    have hcc := hA.const
    clear hA hp
    refine Reg.out_value (v := .pointer (some ⟨b, 0, none⟩)) ?_ ⟨rfl, hrefl _, hI⟩
    go_simp
  · refine Reg.StepAt.guarded (i := 20) rfl ?_
    intro L ev w hI hk hp hA
    have e7 : ev (.tmp 7) = .pointer (some ⟨b, 0, none⟩) := hA.oldNone 7 (by kernel_rfl)
    have eg : ev (.tmp 42) = .bool true := hA.val 18 _ 42 rfl (hp ⟨18, .guard⟩ (by simp) rfl) rfl
    refine ⟨_, 42, true, rfl, rfl, eg, ?_⟩
    rw [if_pos rfl]
    have hcc := hA.const
    clear hA hp
    refine Reg.out_value (v := .pointer (some ⟨b, 0, none⟩)) ?_ ⟨rfl, hrefl _, hI⟩
    go_simp
  · refine Reg.StepAt.guarded (i := 21) rfl ?_
    intro L ev w hI hk hp hA
    have e0 : ev (.tmp 0) = .string t := hA.oldNone 0 (by kernel_rfl)
    have eg : ev (.tmp 42) = .bool true := hA.val 18 _ 42 rfl (hp ⟨18, .guard⟩ (by simp) rfl) rfl
    refine ⟨_, 42, true, rfl, rfl, eg, ?_⟩
    rw [if_pos rfl]
    have hcc := hA.const
    clear hA hp
    refine Reg.out_value (v := .string t) ?_ ⟨rfl, hrefl _, hI⟩
    go_simp
  · refine Reg.StepAt.guarded (i := 22) rfl ?_
    intro L ev w hI hk hp hA
    have e1 : ev (.tmp 1) = .int .i64 (p : Int) := hA.oldNone 1 (by kernel_rfl)
    have eg : ev (.tmp 42) = .bool true := hA.val 18 _ 42 rfl (hp ⟨18, .guard⟩ (by simp) rfl) rfl
    refine ⟨_, 42, true, rfl, rfl, eg, ?_⟩
    rw [if_pos rfl]
    have hcc := hA.const
    clear hA hp
    refine Reg.out_value (v := .int .i64 (p : Int)) ?_ ⟨rfl, hrefl _, hI⟩
    go_simp
  · refine Reg.StepAt.guarded (i := 23) rfl ?_
    intro L ev w hI hk hp hA
    have e45 : ev (.tmp 45) = .string t := hA.val 21 _ 45 rfl (hp ⟨21, .data⟩ (by simp) rfl) rfl
    have e46 : ev (.tmp 46) = .int .i64 (p : Int) := hA.val 22 _ 46 rfl (hp ⟨22, .data⟩ (by simp) rfl) rfl
    have eg : ev (.tmp 42) = .bool true := hA.val 18 _ 42 rfl (hp ⟨18, .guard⟩ (by simp) rfl) rfl
    refine ⟨_, 42, true, rfl, rfl, eg, ?_⟩
    rw [if_pos rfl]
    have hcc := hA.const
    clear hA hp
    refine Reg.out_value (v := .string (t.extract 0 p)) ?_ ⟨rfl, hrefl _, hI⟩
    go_simp
  · refine Reg.StepAt.guarded (i := 24) rfl ?_
    intro L ev w hI hk hp hA
    have e47 : ev (.tmp 47) = .string (t.extract 0 p) := hA.val 23 _ 47 rfl (hp ⟨23, .data⟩ (by simp) rfl) rfl
    have eg : ev (.tmp 42) = .bool true := hA.val 18 _ 42 rfl (hp ⟨18, .guard⟩ (by simp) rfl) rfl
    refine ⟨_, 42, true, rfl, rfl, eg, ?_⟩
    rw [if_pos rfl]
    have hcc := hA.const
    clear hA hp
    refine Reg.out_new (v := .slice (some ⟨w.heap.size, 0, none⟩) 1 1) (w' := w.alloc (.cells #[.string (t.extract 0 p)] 9)) ?_ ?_
    · go_simp
    · exact ⟨Reg.OwnSl.new [.string (t.extract 0 p)] w 9 1 rfl, (Reg.Keeps.refl _).alloc _, hI.alloc _⟩
  · refine Reg.StepAt.guarded (i := 25) rfl ?_
    intro L ev w hI hk hp hA
    have e44 : ev (.tmp 44) = .pointer (some ⟨b, 0, none⟩) := hA.val 20 _ 44 rfl (hp ⟨20, .data⟩ (by simp) rfl) rfl
    have e48 : (Reg.OwnSl [.string (t.extract 0 p)]) (ev (.tmp 48)) w := hA.val 24 _ 48 rfl (hp ⟨24, .data⟩ (by simp) rfl) rfl
    have eg : ev (.tmp 42) = .bool true := hA.val 18 _ 42 rfl (hp ⟨18, .chain⟩ (by simp) rfl) rfl
    refine ⟨_, 42, true, rfl, rfl, eg, ?_⟩
    rw [if_pos rfl]
    have hcc := hA.const
    have hcf := hA.func
    clear hA hp
    refine Reg.out_call (f := 43) (args := #[.pointer (some ⟨b, 0, none⟩), ev (.tmp 48)]) (w0 := w) ?_ ?_
    · go_simp
    refine (sum_of b [t.extract 0 p] y _ w (TabAt.of Ht hb4 hI) (by simp) (by simpa using l1) Hy e48).mono ?_
    rintro e w' ⟨rfl, n, rfl⟩
    exact ⟨_, rfl, rfl, (Reg.Keeps.refl _).drewN n, hI.drewN n⟩
  · refine Reg.StepAt.guarded (i := 26) rfl ?_
    intro L ev w hI hk hp hA
    have e0 : ev (.tmp 0) = .string t := hA.oldNone 0 (by kernel_rfl)
    have eg : ev (.tmp 42) = .bool true := hA.val 18 _ 42 rfl (hp ⟨18, .guard⟩ (by simp) rfl) rfl
    refine ⟨_, 42, true, rfl, rfl, eg, ?_⟩
    rw [if_pos rfl]
    have hcc := hA.const
    clear hA hp
    refine Reg.out_value (v := .string t) ?_ ⟨rfl, hrefl _, hI⟩
    go_simp
  · refine Reg.StepAt.guarded (i := 27) rfl ?_
    intro L ev w hI hk hp hA
    have e1 : ev (.tmp 1) = .int .i64 (p : Int) := hA.oldNone 1 (by kernel_rfl)
    have eg : ev (.tmp 42) = .bool true := hA.val 18 _ 42 rfl (hp ⟨18, .guard⟩ (by simp) rfl) rfl
    refine ⟨_, 42, true, rfl, rfl, eg, ?_⟩
    rw [if_pos rfl]
    have hcc := hA.const
    clear hA hp
    refine Reg.out_value (v := .int .i64 (p : Int)) ?_ ⟨rfl, hrefl _, hI⟩
    go_simp
  · refine Reg.StepAt.guarded (i := 28) rfl ?_
    intro L ev w hI hk hp hA
    have e50 : ev (.tmp 50) = .string t := hA.val 26 _ 50 rfl (hp ⟨26, .data⟩ (by simp) rfl) rfl
    have e51 : ev (.tmp 51) = .int .i64 (p : Int) := hA.val 27 _ 51 rfl (hp ⟨27, .data⟩ (by simp) rfl) rfl
    have eg : ev (.tmp 42) = .bool true := hA.val 18 _ 42 rfl (hp ⟨18, .guard⟩ (by simp) rfl) rfl
    refine ⟨_, 42, true, rfl, rfl, eg, ?_⟩
    rw [if_pos rfl]
    have hcc := hA.const
    clear hA hp
    refine Reg.out_value (v := .string (t.extract p t.size)) ?_ ⟨rfl, hrefl _, hI⟩
    go_simp
  · refine Reg.StepAt.guarded (i := 29) rfl ?_
    intro L ev w hI hk hp hA
    have e43 : ev (.tmp 43) = .pointer (some ⟨b, 0, none⟩) := hA.val 19 _ 43 rfl (hp ⟨19, .data⟩ (by simp) rfl) rfl
    have e49 : ev (.tmp 49) = .int .u32 (y : Int) := hA.val 25 _ 49 rfl (hp ⟨25, .data⟩ (by simp) rfl) rfl
    have e52 : ev (.tmp 52) = .string (t.extract p t.size) := hA.val 28 _ 52 rfl (hp ⟨28, .data⟩ (by simp) rfl) rfl
    have eg : ev (.tmp 42) = .bool true := hA.val 18 _ 42 rfl (hp ⟨18, .guard⟩ (by simp) rfl) rfl
    refine ⟨_, 42, true, rfl, rfl, eg, ?_⟩
    rw [if_pos rfl]
    have hcc := hA.const
    have hcf := hA.func
    clear hA hp
    refine Reg.out_call (f := 46) (args := #[.pointer (some ⟨b, 0, none⟩), .int .u32 (y : Int), .string (t.extract p t.size)]) (w0 := w) ?_ ?_
    · go_simp
    refine (more_to b y (t.extract p t.size) z w hyl l4 (TabAt.of Ht hb4 hI) H2).mono ?_
    rintro e w' ⟨rfl, n, rfl⟩
    exact ⟨_, rfl, rfl, (Reg.Keeps.refl _).drewN n, hI.drewN n⟩
  · refine Reg.StepAt.guarded (i := 30) rfl ?_
    intro L ev w hI hk hp hA
    have e7 : ev (.tmp 7) = .pointer (some ⟨b, 0, none⟩) := hA.oldNone 7 (by kernel_rfl)
    have eg : ev (.tmp 42) = .bool true := hA.val 18 _ 42 rfl (hp ⟨18, .guard⟩ (by simp) rfl) rfl
    refine ⟨_, 42, true, rfl, rfl, eg, ?_⟩
    rw [if_pos rfl]
    have hcc := hA.const
    clear hA hp
    refine Reg.out_value (v := .pointer (some ⟨b, 0, none⟩)) ?_ ⟨rfl, hrefl _, hI⟩
    go_simp
  · refine Reg.StepAt.guarded (i := 31) rfl ?_
    intro L ev w hI hk hp hA
    have e0 : ev (.tmp 0) = .string t := hA.oldNone 0 (by kernel_rfl)
    have eg : ev (.tmp 42) = .bool true := hA.val 18 _ 42 rfl (hp ⟨18, .guard⟩ (by simp) rfl) rfl
    refine ⟨_, 42, true, rfl, rfl, eg, ?_⟩
    rw [if_pos rfl]
    have hcc := hA.const
    clear hA hp
    refine Reg.out_value (v := .string t) ?_ ⟨rfl, hrefl _, hI⟩
    go_simp
  · refine Reg.StepAt.guarded (i := 32) rfl ?_
    intro L ev w hI hk hp hA
    have e55 : ev (.tmp 55) = .string t := hA.val 31 _ 55 rfl (hp ⟨31, .data⟩ (by simp) rfl) rfl
    have eg : ev (.tmp 42) = .bool true := hA.val 18 _ 42 rfl (hp ⟨18, .guard⟩ (by simp) rfl) rfl
    refine ⟨_, 42, true, rfl, rfl, eg, ?_⟩
    rw [if_pos rfl]
    have hcc := hA.const
    clear hA hp
    refine Reg.out_new (v := .slice (some ⟨w.heap.size, 0, none⟩) 1 1) (w' := w.alloc (.cells #[.string t] 9)) ?_ ?_
    · go_simp
    · exact ⟨Reg.OwnSl.new [.string t] w 9 1 rfl, (Reg.Keeps.refl _).alloc _, hI.alloc _⟩
  · refine Reg.StepAt.guarded (i := 33) rfl ?_
    intro L ev w hI hk hp hA
    have e54 : ev (.tmp 54) = .pointer (some ⟨b, 0, none⟩) := hA.val 30 _ 54 rfl (hp ⟨30, .data⟩ (by simp) rfl) rfl
    have e56 : (Reg.OwnSl [.string t]) (ev (.tmp 56)) w := hA.val 32 _ 56 rfl (hp ⟨32, .data⟩ (by simp) rfl) rfl
    have eg : ev (.tmp 42) = .bool true := hA.val 18 _ 42 rfl (hp ⟨18, .guard⟩ (by simp) rfl) rfl
    refine ⟨_, 42, true, rfl, rfl, eg, ?_⟩
    rw [if_pos rfl]
    have hcc := hA.const
    have hcf := hA.func
    clear hA hp
    refine Reg.out_call (f := 43) (args := #[.pointer (some ⟨b, 0, none⟩), ev (.tmp 56)]) (w0 := w) ?_ ?_
    · go_simp
    refine (sum_of b [t] z _ w (TabAt.of Ht hb4 hI) (by simp) (by simpa using l0) Hz e56).mono ?_
    rintro e w' ⟨rfl, n, rfl⟩
    exact ⟨_, rfl, rfl, (Reg.Keeps.refl _).drewN n, hI.drewN n⟩
  · refine Reg.StepAt.guarded (i := 34) rfl ?_
    intro L ev w hI hk hp hA
    have e53 : ev (.tmp 53) = .int .u32 (z : Int) := hA.val 29 _ 53 rfl (hp ⟨29, .data⟩ (by simp) rfl) rfl
    have e57 : ev (.tmp 57) = .int .u32 (z : Int) := hA.val 33 _ 57 rfl (hp ⟨33, .data⟩ (by simp) rfl) rfl
    have eg : ev (.tmp 42) = .bool true := hA.val 18 _ 42 rfl (hp ⟨18, .guard⟩ (by simp) rfl) rfl
    refine ⟨_, 42, true, rfl, rfl, eg, ?_⟩
    rw [if_pos rfl]
    have hcc := hA.const
    clear hA hp
    refine Reg.out_value (v := .bool true) ?_ ⟨rfl, hrefl _, hI⟩
    go_simp
  · refine Reg.StepAt.plain (i := 35) rfl ?_
    intro L ev w hI hk hp hA
    have e42 : ev (.tmp 42) = .bool true := hA.val 18 _ 42 rfl (hp ⟨18, .data⟩ (by simp) rfl) rfl
    have e58 : ev (.tmp 58) = .bool true := hA.val 34 _ 58 rfl (hp ⟨34, .data⟩ (by simp) rfl) rfl
    have hcc := hA.const
    clear hA hp
    refine Reg.out_value (v := .bool true) ?_ ⟨rfl, hrefl _, hI⟩
    go_simp
  · refine Reg.StepAt.plain (i := 36) rfl ?_
    intro L ev w hI hk hp hA
    have e59 : ev (.tmp 59) = .bool true := hA.val 35 _ 59 rfl (hp ⟨35, .data⟩ (by simp) rfl) rfl
    have hcc := hA.const
    clear hA hp
    refine Reg.out_value (v := .bool true) ?_ ⟨rfl, hrefl _, hI⟩
    go_simp
  intro L a w' hall hI hF
  have h6 : a.eval (.tmp 6) = .bool true := hF.val 36 _ 6 rfl (hall 36 (by simp)) rfl
  have hd : a.defers = [] := hF.defers
  clear hF hall
  go_wp2
  refine bodyPost_ret (results_tmp rfl a.tmps Try.prog w') hd ?_
  exact ⟨congrArg Ending.returned h6, hb2.trans (hb5.mono hb2.size |>.trans (Below.mono hI (Nat.le_trans hb2.size hb5.size)))⟩
end Go.Proofs.Ytedhecbcpcmlmaa
