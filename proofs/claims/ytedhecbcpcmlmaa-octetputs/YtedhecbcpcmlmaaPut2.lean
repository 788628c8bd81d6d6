/-
  OctetPuts, walked.
-/
import Derived.Test.YtedhecbcpcmlmaaSeal
import Derived.Test.YtedhecbcpcmlmaaPuts
import Derived.Test.YtedhecbcpcmlmaaGhost
import Derived.Test.YtedhecbcpcmlmaaOne
namespace Go.Proofs.Ytedhecbcpcmlmaa
open Go.RowKit

/-- b(): the bytes of what the box holds, in new memory. -/
theorem box_any (bx : Nat) (s : ByteArray) (w : World) (hc : w.cell? ⟨bx, 0, none⟩ = some (.string s)) (hs : s.size ≤ 549755813888) :
    Calls Try.prog 18 #[.pointer (some ⟨bx, 0, none⟩)] w fun e w' => ∃ v, e = .returned v ∧ Sl.Own w' v (Sl.cells s.data.toList) ∧ Reg.Keeps w w' ∧ v.ownBlock = some w.heap.size := by
  obtain ⟨v, w6, hrun, ho, hk6, hnn, hown⟩ := run_bytes s w hs
  go_enter Try.func18, Try.ntmps18
  go_wp2
  go_ret
  exact ⟨_, rfl, ho, hk6, hown⟩

/-- The stage, and the slice that is at work. -/
abbrev Gh := Nat × Value
def stR (k : Nat) : Value → Gh → World → Prop := fun v x _ => k ≤ x.1 ∧ (x.1 = k → x.2 = v)
def PPres : Gh → World → Gh → World → Prop := fun x _ x' _ => x.1 ≤ x'.1 ∧ (x'.1 = x.1 → x' = x)
theorem stR_kept (k : Nat) : ∀ v x w x' w', PPres x w x' w' → stR k v x w → stR k v x' w' := by
  rintro v x w x' w' ⟨h1, h2⟩ ⟨h3, h4⟩
  refine ⟨by omega, fun h => ?_⟩
  have e := h2 (by omega)
  rw [e] at h ⊢
  exact h4 h
theorem PPres.refl (x : Gh) (w w' : World) : PPres x w x w' := ⟨Nat.le_refl _, fun _ => rfl⟩
theorem PPres.next {x : Gh} {w w' : World} {s : Nat} {v : Value} (h : x.1 < s) : PPres x w (s, v) w' := ⟨Nat.le_of_lt h, fun e => by simp at e; omega⟩

structure PI (w0 : World) (want : Nat → List UInt8) (marks : List (Nat × Nat)) (x : Gh) (L : Array Bool) (w : World) : Prop where
  bel : Below w0.heap.size w0 w
  blk : ∀ k, x.2.ownBlock = some k → w0.heap.size ≤ k
  own : 0 < x.1 → Sl.Own w x.2 (Sl.cells (want x.1))
  link : ∀ p ∈ marks, L.getD p.1 false = false → x.1 < p.2
theorem PI.same {w0 : World} {want : Nat → List UInt8} {marks : List (Nat × Nat)} {x : Gh} {L : Array Bool} {w w' : World} (h : PI w0 want marks x L w) (i : Nat) (hk : Reg.Keeps w w') : PI w0 want marks x (L.setIfInBounds i true) w' :=
  ⟨h.bel.trans (hk.mono h.bel.size), h.blk, fun hx => (h.own hx).keeps hk, fun p hp hL => h.link p hp (by
    cases hL' : L.getD p.1 false with
    | false => rfl
    | true => rw [getD_set_true hL'] at hL; cases hL)⟩
theorem PI.next {w0 : World} {want : Nat → List UInt8} {marks : List (Nat × Nat)} {x : Gh} {L : Array Bool} {w w' : World} (i s : Nat) (v : Value) (hbel : Below w0.heap.size w0 w') (hblk : ∀ k, v.ownBlock = some k → w0.heap.size ≤ k)
    (hown : Sl.Own w' v (Sl.cells (want s))) (hi : L.getD i true = false) (hl : ∀ p ∈ marks, s < p.2 ∨ p.1 = i ∨ L.getD p.1 false = true) (_h : PI w0 want marks x L w) : PI w0 want marks (s, v) (L.setIfInBounds i true) w' :=
  ⟨hbel, hblk, fun _ => hown, fun p hp hL => by
    rcases hl p hp with h1 | h1 | h1
    · exact h1
    · have hlt : i < L.size := by
        rcases Nat.lt_or_ge i L.size with h' | h'
        · exact h'
        · simp [Array.getElem?_eq_none h'] at hi
      rw [h1] at hL
      simp [hlt] at hL
    · rw [getD_set_true h1] at hL; cases hL⟩


def want3 (l0 l1 l2 : List UInt8) : Nat → List UInt8
  | 1 => l0
  | 2 => l1
  | 3 => l0
  | _ => l2
def want5 (l0 l1 l2 l3 : List UInt8) : Nat → List UInt8
  | 1 => l0
  | 2 => l1
  | 3 => l0
  | 4 => l2
  | 5 => l0
  | _ => l3
def putR3 (t : ByteArray) (n : Nat) (m : Int) (bx : Nat) (N1 X1 N2 X2 : ByteArray) : List (Value → Gh → World → Prop) :=
  [fun v _ _ => v = .bool true,
   fun v _ _ => v = .bool false,
   fun v _ _ => v = .bool false,
   fun v _ _ => v = .func (.func 18) #[] #[.pointer (some ⟨bx, 0, none⟩)],
   stR 1,
   fun v _ _ => v = .int .u64 (n : Int),
   stR 2,
   fun v _ _ => v = .string X1,
   fun v _ _ => v = .string t,
   fun v _ _ => v = .int .u64 (n : Int),
   fun v _ _ => v = .string N1,
   fun v _ _ => v = .string X1,
   fun v _ _ => v = .bool false,
   fun v _ _ => v = .bool false,
   fun v _ _ => v = .bool false,
   fun v _ _ => v = .func (.func 18) #[] #[.pointer (some ⟨bx, 0, none⟩)],
   stR 3,
   fun v _ _ => v = .int .i64 m,
   stR 4,
   fun v _ _ => v = .string X2,
   fun v _ _ => v = .string t,
   fun v _ _ => v = .int .i64 m,
   fun v _ _ => v = .string N2,
   fun v _ _ => v = .string X2,
   fun v _ _ => v = .bool false,
   fun v _ _ => v = .bool false]
theorem putR3_kept (t : ByteArray) (n : Nat) (m : Int) (bx : Nat) (N1 X1 N2 X2 : ByteArray) : Reg.GAllKept PPres (putR3 t n m bx N1 X1 N2 X2) :=
  ⟨(fun _ _ _ _ _ _ h => h), (fun _ _ _ _ _ _ h => h), (fun _ _ _ _ _ _ h => h), (fun _ _ _ _ _ _ h => h), stR_kept 1, (fun _ _ _ _ _ _ h => h), stR_kept 2, (fun _ _ _ _ _ _ h => h), (fun _ _ _ _ _ _ h => h), (fun _ _ _ _ _ _ h => h), (fun _ _ _ _ _ _ h => h), (fun _ _ _ _ _ _ h => h), (fun _ _ _ _ _ _ h => h), (fun _ _ _ _ _ _ h => h), (fun _ _ _ _ _ _ h => h), (fun _ _ _ _ _ _ h => h), stR_kept 3, (fun _ _ _ _ _ _ h => h), stR_kept 4, (fun _ _ _ _ _ _ h => h), (fun _ _ _ _ _ _ h => h), (fun _ _ _ _ _ _ h => h), (fun _ _ _ _ _ _ h => h), (fun _ _ _ _ _ _ h => h), (fun _ _ _ _ _ _ h => h), (fun _ _ _ _ _ _ h => h), trivial⟩
def putR5 (t u : ByteArray) (n : Nat) (k : Nat) (bx : Nat) (N3 Y3 X3 N4 X4 N5 X5 : ByteArray) : List (Value → Gh → World → Prop) :=
  [fun v _ _ => v = .func (.func 18) #[] #[.pointer (some ⟨bx, 0, none⟩)],
   stR 1,
   fun v _ _ => v = .string u,
   stR 2,
   fun v _ _ => v = .string X3,
   fun v _ _ => v = .string t,
   fun v _ _ => v = .string u,
   fun v _ _ => v = .int .i64 (u.size : Int),
   fun v _ _ => v = .int .u64 (u.size : Int),
   fun v _ _ => v = .string N3,
   fun v _ _ => v = .string Y3,
   fun v _ _ => v = .string u,
   fun v _ _ => v = .string X3,
   fun v _ _ => v = .bool true,
   fun v _ _ => v = .bool true,
   fun v _ _ => v = .func (.func 18) #[] #[.pointer (some ⟨bx, 0, none⟩)],
   stR 3,
   fun v _ _ => v = .int .u32 (k : Int),
   stR 4,
   fun v _ _ => v = .string X4,
   fun v _ _ => v = .string t,
   fun v _ _ => v = .int .u32 (k : Int),
   fun v _ _ => v = .int .u64 (k : Int),
   fun v _ _ => v = .string N4,
   fun v _ _ => v = .string X4,
   fun v _ _ => v = .bool true,
   fun v _ _ => v = .bool true,
   fun v _ _ => v = .bool true,
   fun v _ _ => v = .func (.func 18) #[] #[.pointer (some ⟨bx, 0, none⟩)],
   stR 5,
   fun v _ _ => v = .int .u64 (n : Int),
   stR 6,
   fun v _ _ => v = .string X5,
   fun v _ _ => v = .string t,
   fun v _ _ => v = .int .u64 (n : Int),
   fun v _ _ => v = .string N5,
   fun v _ _ => v = .string X5,
   fun v _ _ => v = .bool true,
   fun v _ _ => v = .bool true,
   fun v _ _ => v = .bool true]
theorem putR5_kept (t u : ByteArray) (n : Nat) (k : Nat) (bx : Nat) (N3 Y3 X3 N4 X4 N5 X5 : ByteArray) : Reg.GAllKept PPres (putR5 t u n k bx N3 Y3 X3 N4 X4 N5 X5) :=
  ⟨(fun _ _ _ _ _ _ h => h), stR_kept 1, (fun _ _ _ _ _ _ h => h), stR_kept 2, (fun _ _ _ _ _ _ h => h), (fun _ _ _ _ _ _ h => h), (fun _ _ _ _ _ _ h => h), (fun _ _ _ _ _ _ h => h), (fun _ _ _ _ _ _ h => h), (fun _ _ _ _ _ _ h => h), (fun _ _ _ _ _ _ h => h), (fun _ _ _ _ _ _ h => h), (fun _ _ _ _ _ _ h => h), (fun _ _ _ _ _ _ h => h), (fun _ _ _ _ _ _ h => h), (fun _ _ _ _ _ _ h => h), stR_kept 3, (fun _ _ _ _ _ _ h => h), stR_kept 4, (fun _ _ _ _ _ _ h => h), (fun _ _ _ _ _ _ h => h), (fun _ _ _ _ _ _ h => h), (fun _ _ _ _ _ _ h => h), (fun _ _ _ _ _ _ h => h), (fun _ _ _ _ _ _ h => h), (fun _ _ _ _ _ _ h => h), (fun _ _ _ _ _ _ h => h), (fun _ _ _ _ _ _ h => h), (fun _ _ _ _ _ _ h => h), stR_kept 5, (fun _ _ _ _ _ _ h => h), stR_kept 6, (fun _ _ _ _ _ _ h => h), (fun _ _ _ _ _ _ h => h), (fun _ _ _ _ _ _ h => h), (fun _ _ _ _ _ _ h => h), (fun _ _ _ _ _ _ h => h), (fun _ _ _ _ _ _ h => h), (fun _ _ _ _ _ _ h => h), (fun _ _ _ _ _ _ h => h), trivial⟩

theorem u64_wrap_nat (n : Nat) (h : n < 18446744073709551616) : IntKind.u64.wrap (n : Int) = (n : Int) := by
  have e : IntKind.u64.wrap (n : Int) = (n : Int) % 18446744073709551616 := by simp [IntKind.wrap, IntKind.signed, IntKind.bits]
  rw [e, Int.emod_eq_of_lt (by omega) (by omega)]
theorem put_any (t : ByteArray) (f : Nat) (v0 : Value) (l : List UInt8) (hc : ∀ v w, Sl.Own w v (Sl.cells t.data.toList) → Calls Try.prog f #[v, v0] w fun e w' => ∃ v', e = .returned v' ∧ Sl.Own w' v' (Sl.cells t.data.toList ++ Sl.cells l) ∧ Sl.Frame w w' v v' ∧ v' ≠ .slice none 0 0)
    (hl : l.length ≤ 100) (N : ByteArray) (hN : N = ⟨l.toArray⟩) (fr : Nat) (ar : Array Value) (hr : ∀ w, Calls Try.prog fr ar w fun e w' => e = .returned (.string N) ∧ Reg.Keeps w w') :
    ∃ (N X : ByteArray) (l1 : List UInt8), t ++ N = X ∧ N.size ≤ 100 ∧ Hid (∀ v w, Sl.Own w v (Sl.cells t.data.toList) → Calls Try.prog f #[v, v0] w fun e w' => ∃ v', e = .returned v' ∧ Sl.Own w' v' (Sl.cells t.data.toList ++ Sl.cells l) ∧ Sl.Frame w w' v v' ∧ v' ≠ .slice none 0 0) ∧
      Hid (∀ w' v', Sl.Own w' v' (Sl.cells t.data.toList ++ Sl.cells l) → Sl.Own w' v' (Sl.cells l1)) ∧ Hid (∀ w v, Sl.Own w v (Sl.cells l1) → (convert 36 9 v).run Try.prog w = .ok (.string X) w) ∧ Hid (∀ w, Calls Try.prog fr ar w fun e w' => e = .returned (.string N) ∧ Reg.Keeps w w') := by
  refine ⟨N, t ++ N, t.data.toList ++ l, rfl, by rw [hN]; simpa [ByteArray.size] using hl, hid hc, hid (fun w' v' h => by rw [Sl.cells_append]; exact h), hid (fun w v h => ?_), hid hr⟩
  rw [str_of w v _ h]
  congr 2
  subst hN
  apply ByteArray.ext
  apply Array.toList_inj.1
  simp
theorem put_str (t u : ByteArray) (hcl : (Sl.cells t.data.toList).length ≤ 549755813888) (hu : u.size ≤ 300) :
    ∃ (N Y X : ByteArray) (l1 : List UInt8), t ++ N = Y ∧ Y ++ u = X ∧ N.size ≤ 100 ∧ Hid (∀ v w, Sl.Own w v (Sl.cells t.data.toList) → Calls Try.prog 23 #[v, .string u] w fun e w' => ∃ v', e = .returned v' ∧ Sl.Own w' v' (Sl.cells t.data.toList ++ Sl.cells (Oct.numB 9 u.size) ++ Sl.cells u.data.toList) ∧ Sl.Frame w w' v v' ∧ v' ≠ .slice none 0 0) ∧
      Hid (∀ w' v', Sl.Own w' v' (Sl.cells t.data.toList ++ Sl.cells (Oct.numB 9 u.size) ++ Sl.cells u.data.toList) → Sl.Own w' v' (Sl.cells l1)) ∧ Hid (∀ w v, Sl.Own w v (Sl.cells l1) → (convert 36 9 v).run Try.prog w = .ok (.string X) w) ∧ Hid (∀ w, Calls Try.prog 24 #[.int .u64 (u.size : Int)] w fun e w' => e = .returned (.string N) ∧ Reg.Keeps w w') := by
  refine ⟨⟨(Oct.numB 9 u.size).toArray⟩, _, _, t.data.toList ++ Oct.numB 9 u.size ++ u.data.toList, rfl, rfl, by show (Oct.numB 9 u.size).toArray.size ≤ 100; rw [List.size_toArray]; exact Nat.le_trans (Oct.numB_length 9 u.size) (by decide), hid (fun v w h => str_any v _ u w h hcl (by omega)), hid (fun w' v' h => by rw [Sl.cells_append, Sl.cells_append]; exact h), hid (fun w v h => ?_), hid (fun w => num2_any u.size w (by omega))⟩
  rw [str_of w v _ h]
  congr 2

set_option maxRecDepth 10000 in
set_option maxHeartbeats 4000000 in
theorem octetPuts_any (a s : ByteArray) (n : Nat) (m : Int) (k : Nat) (w : World) (ha : a.size ≤ maxLen) (hs : s.size ≤ maxLen) (hn : n < 18446744073709551616) (h0 : -9223372036854775808 ≤ m) (h1 : m ≤ 9223372036854775807) (hk : k < 4294967296) :
    Calls Try.prog 4 #[.string a, .int .u64 (n : Int), .int .i64 m, .int .u32 (k : Int), .string s] w fun e w' => e = .returned (.bool true) ∧ Below w.heap.size w w' := by
  go_enter Try.func4, Try.ntmps4
  go_wp2_with fail
  refine (cut_any a 40 _ ha).mono ?_
  rintro e w1 ⟨rfl, rfl⟩
  have ha2 : (a.extract 0 40).size ≤ 40 := by rw [extract_size]; omega
  generalize a.extract 0 40 = t at *
  go_wp2_with fail
  refine (cut_any s 300 _ hs).mono ?_
  rintro e w1 ⟨rfl, rfl⟩
  have hs2 : (s.extract 0 300).size ≤ 300 := by rw [extract_size]; omega
  generalize s.extract 0 300 = u at *
  go_wp2_with fail
  have hB1 : Below w.heap.size w (w.alloc (Obj.cells #[Value.string t] 9)) := Below.alloc (Below.refl _ _) (Nat.le_refl _) _
  have hcx : (w.alloc (Obj.cells #[Value.string t] 9)).cell? ⟨w.heap.size, 0, none⟩ = some (.string t) := by simp
  have hbx : w.heap.size < (w.alloc (Obj.cells #[Value.string t] 9)).heap.size := by simp
  have HB1 := hid hB1
  clear hB1
  generalize w.alloc (Obj.cells #[Value.string t] 9) = w1 at *
  obtain ⟨bx, hbxe⟩ : ∃ bx, w.heap.size = bx := ⟨_, rfl⟩
  have HBX := hid hbxe
  rw [hbxe] at hcx hbx ⊢
  clear hbxe
  have hcl : (Sl.cells t.data.toList).length ≤ 549755813888 := by rw [Sl.cells_length]; simp; omega
  have hll : t.data.toList.length = t.size := by simp
  obtain ⟨N1, X1, l1, hcat1, hn1, Hc1, Hl1, HsX1, Hr1⟩ := put_any t 19 (.int .u64 (n : Int)) (Oct.numB 9 n) (fun v w h => num_any v _ n w h hcl hn) (Nat.le_trans (Oct.numB_length 9 _) (by decide)) ⟨(Oct.numB 9 n).toArray⟩ rfl 20 #[.int .u64 (n : Int)] (fun w => refNum_any n w hn)
  obtain ⟨N2, X2, l2, hcat2, hn2, Hc2, Hl2, HsX2, Hr2⟩ := put_any t 21 (.int .i64 m) (Oct.numB 9 (Oct.zig m)) (fun v w h => int_any v _ m w h hcl h0 h1) (Nat.le_trans (Oct.numB_length 9 _) (by decide)) ⟨(Oct.numB 9 (Oct.zig m)).toArray⟩ rfl 22 #[.int .i64 m] (fun w => refInt_any m w h0 h1)
  obtain ⟨N3, Y3, X3, l3, hcat3, hcat3b, hn3, Hc3, Hl3, HsX3, Hr3⟩ := put_str t u hcl hs2
  obtain ⟨N4, X4, l4, hcat4, hn4, Hc4, Hl4, HsX4, Hr4⟩ := put_any t 25 (.int .u32 (k : Int)) (Oct.fixB 4 k) (fun v w h => word_any v _ k w h hcl hk) (by rw [Oct.fixB_length]; decide) ⟨(Oct.fixB 4 k).toArray⟩ rfl 26 #[.int .u64 (k : Int), .int .i64 4] (fun w => fixed_any k 4 w (by omega) (by decide))
  obtain ⟨N5, X5, l5, hcat5, hn5, Hc5, Hl5, HsX5, Hr5⟩ := put_any t 27 (.int .u64 (n : Int)) (Oct.fixB 8 n) (fun v w h => long_any v _ n w h hcl hn) (by rw [Oct.fixB_length]; decide) ⟨(Oct.fixB 8 n).toArray⟩ rfl 26 #[.int .u64 (n : Int), .int .i64 8] (fun w => fixed_any n 8 w hn (by decide))
  have z1 : t.size + N1.size ≤ 9223372036854775807 := by omega
  have z2 : t.size + N2.size ≤ 9223372036854775807 := by omega
  have hI0 : PI w1 (want3 t.data.toList l1 l2) [(4, 1), (6, 2), (7, 3), (16, 3), (18, 4), (19, 5)] (0, .slice none 0 0) (Array.replicate 26 false) w1.drew := ⟨(Below.refl _ _).drew, fun _ h => by simp [Value.ownBlock] at h, fun h => absurd h (Nat.lt_irrefl _), by simp⟩
  refine Reg.wp_region_ghost (Reg.gofList (putR3 t n m bx N1 X1 N2 X2)) PPres (PI w1 (want3 t.data.toList l1 l2) [(4, 1), (6, 2), (7, 3), (16, 3), (18, 4), (19, 5)]) (0, .slice none 0 0) (by kernel_rfl) (by kernel_rfl) (Reg.GAllKept.at _ (putR3_kept t n m bx N1 X1 N2 X2)) hI0 ⟨?_, ?_, ?_, ?_, ?_, ?_, ?_, ?_, ?_, ?_, ?_, ?_, ?_, ?_, ?_, ?_, ?_, ?_, ?_, ?_, ?_, ?_, ?_, ?_, ?_, ?_, trivial⟩ ?_
  · refine Reg.GStepAt.plain (i := 0) rfl ?_
    intro x L ev w hI hk hp hA
    have hcc := hA.const
    have hcf := hA.func
    clear hA hp
    refine Reg.out_call (f := 16) (args := #[]) (w0 := w) ?_ ?_
    · go_simp
    refine (awake1_any w).mono ?_
    rintro e w' ⟨rfl, hkp⟩
    exact ⟨_, rfl, x, rfl, PPres.refl _ _ _, hI.same 0 hkp⟩
  · refine Reg.GStepAt.plain (i := 1) rfl ?_
    intro x L ev w hI hk hp hA
    have e17 : ev (.tmp 17) = .bool true := hA.val 0 _ 17 rfl (hp ⟨0, .data⟩ (by simp) rfl) rfl
    have hcc := hA.const
    clear hA hp
    refine Reg.out_value (v := .bool false) ?_ ⟨x, rfl, PPres.refl _ _ _, hI.same 1 (Reg.Keeps.refl _)⟩
    go_simp
  · refine Reg.GStepAt.plain (i := 2) rfl ?_
    intro x L ev w hI hk hp hA
    have e18 : ev (.tmp 18) = .bool false := hA.val 1 _ 18 rfl (hp ⟨1, .data⟩ (by simp) rfl) rfl
    have hcc := hA.const
    clear hA hp
    refine Reg.out_value (v := .bool false) ?_ ⟨x, rfl, PPres.refl _ _ _, hI.same 2 (Reg.Keeps.refl _)⟩
    go_simp
  · refine Reg.GStepAt.guarded (i := 3) rfl ?_
    intro x L ev w hI hk hp hA
    have e11 : ev (.tmp 11) = .func (.func 18) #[] #[.pointer (some ⟨bx, 0, none⟩)] := hA.oldNone 11 (by kernel_rfl)
    have eg : ev (.tmp 19) = .bool false := hA.val 2 _ 19 rfl (hp ⟨2, .guard⟩ (by simp) rfl) rfl
    refine ⟨_, 19, rfl, rfl, eg, ?_⟩
    clear eg
    have hcc := hA.const
    clear hA hp
    refine Reg.out_value (v := .func (.func 18) #[] #[.pointer (some ⟨bx, 0, none⟩)]) ?_ ⟨x, rfl, PPres.refl _ _ _, hI.same 3 (Reg.Keeps.refl _)⟩
    go_simp
  · refine Reg.GStepAt.guarded (i := 4) rfl ?_
    intro x L ev w hI hk hp hA
    have e20 : ev (.tmp 20) = .func (.func 18) #[] #[.pointer (some ⟨bx, 0, none⟩)] := hA.val 3 _ 20 rfl (hp ⟨3, .data⟩ (by simp) rfl) rfl
    have eg : ev (.tmp 19) = .bool false := hA.val 2 _ 19 rfl (hp ⟨2, .guard⟩ (by simp) rfl) rfl
    refine ⟨_, 19, rfl, rfl, eg, ?_⟩
    clear eg
    have lt : x.1 < 1 := hI.link (4, 1) (by simp) (getD_false hk)
    have hcc := hA.const
    clear hA hp
    refine Reg.out_call (f := 18) (args := #[.pointer (some ⟨bx, 0, none⟩)]) (w0 := w) ?_ ?_
    · go_simp
    refine (box_any bx t w ((hI.bel.cell (p := ⟨bx, 0, none⟩) hbx).trans hcx) (by omega)).mono ?_
    rintro e w' ⟨v', rfl, ho, hkp, hob⟩
    exact ⟨v', rfl, (1, v'), ⟨Nat.le_refl _, fun _ => rfl⟩, PPres.next lt, PI.next 4 1 v' (hI.bel.trans (hkp.mono hI.bel.size)) (fun j hj => by rw [hob] at hj; injection hj with hj; have := hI.bel.size; omega) ho hk (List.forall_mem_cons.2 ⟨.inr (.inl rfl), List.forall_mem_cons.2 ⟨.inl (by decide), List.forall_mem_cons.2 ⟨.inl (by decide), List.forall_mem_cons.2 ⟨.inl (by decide), List.forall_mem_cons.2 ⟨.inl (by decide), List.forall_mem_cons.2 ⟨.inl (by decide), fun _ h => by cases h⟩⟩⟩⟩⟩⟩) hI⟩
  · refine Reg.GStepAt.guarded (i := 5) rfl ?_
    intro x L ev w hI hk hp hA
    have e1 : ev (.tmp 1) = .int .u64 (n : Int) := hA.oldNone 1 (by kernel_rfl)
    have eg : ev (.tmp 19) = .bool false := hA.val 2 _ 19 rfl (hp ⟨2, .guard⟩ (by simp) rfl) rfl
    refine ⟨_, 19, rfl, rfl, eg, ?_⟩
    clear eg
    have hcc := hA.const
    clear hA hp
    refine Reg.out_value (v := .int .u64 (n : Int)) ?_ ⟨x, rfl, PPres.refl _ _ _, hI.same 5 (Reg.Keeps.refl _)⟩
    go_simp
  · refine Reg.GStepAt.guarded (i := 6) rfl ?_
    intro x L ev w hI hk hp hA
    have e21 : stR 1 (ev (.tmp 21)) x w := hA.val 4 _ 21 rfl (hp ⟨4, .data⟩ (by simp) rfl) rfl
    have e22 : ev (.tmp 22) = .int .u64 (n : Int) := hA.val 5 _ 22 rfl (hp ⟨5, .data⟩ (by simp) rfl) rfl
    have eg : ev (.tmp 19) = .bool false := hA.val 2 _ 19 rfl (hp ⟨2, .guard⟩ (by simp) rfl) rfl
    refine ⟨_, 19, rfl, rfl, eg, ?_⟩
    clear eg
    have c4 : L.getD 4 false = true := hp ⟨4, .data⟩ (by simp) rfl
    have lt : x.1 < 2 := hI.link (6, 2) (by simp) (getD_false hk)
    have hcc := hA.const
    have hcf := hA.func
    clear hA hp
    have hx : x.1 = 1 := by have := e21.1; omega
    have hv := e21.2 hx
    have ho0 : Sl.Own w (ev (.tmp 21)) (Sl.cells t.data.toList) := by
      have := hI.own (by omega)
      rw [hx, hv] at this
      exact this
    have hb0 := hI.blk
    rw [hv] at hb0
    refine Reg.out_call (f := 19) (args := #[ev (.tmp 21), .int .u64 (n : Int)]) (w0 := w) ?_ ?_
    · clear e21 hv ho0 hb0
      go_simp
    refine (Hc1.out (ev (.tmp 21)) w ho0).mono ?_
    rintro e w' ⟨v', rfl, ho, hf, _⟩
    exact ⟨v', rfl, (2, v'), ⟨Nat.le_refl _, fun _ => rfl⟩, PPres.next lt, PI.next 6 2 v' (hI.bel.trans (hf.below hI.bel.size hb0)) (fun j hj => by rcases hf.lies j hj with h | h; exact hb0 j h; have := hI.bel.size; omega) (Hl1.out _ _ ho) hk (List.forall_mem_cons.2 ⟨.inr (.inr c4), List.forall_mem_cons.2 ⟨.inr (.inl rfl), List.forall_mem_cons.2 ⟨.inl (by decide), List.forall_mem_cons.2 ⟨.inl (by decide), List.forall_mem_cons.2 ⟨.inl (by decide), List.forall_mem_cons.2 ⟨.inl (by decide), fun _ h => by cases h⟩⟩⟩⟩⟩⟩) hI⟩
  · refine Reg.GStepAt.guarded (i := 7) rfl ?_
    intro x L ev w hI hk hp hA
    have e23 : stR 2 (ev (.tmp 23)) x w := hA.val 6 _ 23 rfl (hp ⟨6, .data⟩ (by simp) rfl) rfl
    have eg : ev (.tmp 19) = .bool false := hA.val 2 _ 19 rfl (hp ⟨2, .guard⟩ (by simp) rfl) rfl
    refine ⟨_, 19, rfl, rfl, eg, ?_⟩
    clear eg
    have hcc := hA.const
    clear hA hp
    have lt : x.1 < 3 := hI.link (7, 3) (by simp) (getD_false hk)
    have hx : x.1 = 2 := by have := e23.1; omega
    have hv := e23.2 hx
    have ho0 : Sl.Own w (ev (.tmp 23)) (Sl.cells l1) := by
      have := hI.own (by omega)
      rw [hx, hv] at this
      exact this
    have hst := HsX1.out w _ ho0
    clear e23 hv ho0
    refine Reg.out_value (v := .string X1) ?_ ⟨x, rfl, PPres.refl _ _ _, hI.same 7 (Reg.Keeps.refl _)⟩
    go_simp
  · refine Reg.GStepAt.guarded (i := 8) rfl ?_
    intro x L ev w hI hk hp hA
    have e5 : ev (.tmp 5) = .pointer (some ⟨bx, 0, none⟩) := hA.oldNone 5 (by kernel_rfl)
    have eg : ev (.tmp 19) = .bool false := hA.val 2 _ 19 rfl (hp ⟨2, .guard⟩ (by simp) rfl) rfl
    refine ⟨_, 19, rfl, rfl, eg, ?_⟩
    clear eg
    have hcc := hA.const
    clear hA hp
    have hcw := (hI.bel.cell (p := ⟨bx, 0, none⟩) hbx).trans hcx
    refine Reg.out_value (v := .string t) ?_ ⟨x, rfl, PPres.refl _ _ _, hI.same 8 (Reg.Keeps.refl _)⟩
    go_simp
  · refine Reg.GStepAt.guarded (i := 9) rfl ?_
    intro x L ev w hI hk hp hA
    have e1 : ev (.tmp 1) = .int .u64 (n : Int) := hA.oldNone 1 (by kernel_rfl)
    have eg : ev (.tmp 19) = .bool false := hA.val 2 _ 19 rfl (hp ⟨2, .guard⟩ (by simp) rfl) rfl
    refine ⟨_, 19, rfl, rfl, eg, ?_⟩
    clear eg
    have hcc := hA.const
    clear hA hp
    refine Reg.out_value (v := .int .u64 (n : Int)) ?_ ⟨x, rfl, PPres.refl _ _ _, hI.same 9 (Reg.Keeps.refl _)⟩
    go_simp
  · refine Reg.GStepAt.guarded (i := 10) rfl ?_
    intro x L ev w hI hk hp hA
    have e26 : ev (.tmp 26) = .int .u64 (n : Int) := hA.val 9 _ 26 rfl (hp ⟨9, .data⟩ (by simp) rfl) rfl
    have eg : ev (.tmp 19) = .bool false := hA.val 2 _ 19 rfl (hp ⟨2, .guard⟩ (by simp) rfl) rfl
    refine ⟨_, 19, rfl, rfl, eg, ?_⟩
    clear eg
    have hcc := hA.const
    have hcf := hA.func
    clear hA hp
    refine Reg.out_call (f := 20) (args := #[.int .u64 (n : Int)]) (w0 := w) ?_ ?_
    · go_simp
    refine (Hr1.out w).mono ?_
    rintro e w' ⟨rfl, hkp⟩
    exact ⟨_, rfl, x, rfl, PPres.refl _ _ _, hI.same 10 hkp⟩
  · refine Reg.GStepAt.guarded (i := 11) rfl ?_
    intro x L ev w hI hk hp hA
    have e25 : ev (.tmp 25) = .string t := hA.val 8 _ 25 rfl (hp ⟨8, .data⟩ (by simp) rfl) rfl
    have e27 : ev (.tmp 27) = .string N1 := hA.val 10 _ 27 rfl (hp ⟨10, .data⟩ (by simp) rfl) rfl
    have eg : ev (.tmp 19) = .bool false := hA.val 2 _ 19 rfl (hp ⟨2, .guard⟩ (by simp) rfl) rfl
    refine ⟨_, 19, rfl, rfl, eg, ?_⟩
    clear eg
    have hcc := hA.const
    clear hA hp
    refine Reg.out_value (v := .string X1) ?_ ⟨x, rfl, PPres.refl _ _ _, hI.same 11 (Reg.Keeps.refl _)⟩
    go_simp
  · refine Reg.GStepAt.guarded (i := 12) rfl ?_
    intro x L ev w hI hk hp hA
    have e24 : ev (.tmp 24) = .string X1 := hA.val 7 _ 24 rfl (hp ⟨7, .data⟩ (by simp) rfl) rfl
    have e28 : ev (.tmp 28) = .string X1 := hA.val 11 _ 28 rfl (hp ⟨11, .data⟩ (by simp) rfl) rfl
    have eg : ev (.tmp 19) = .bool false := hA.val 2 _ 19 rfl (hp ⟨2, .guard⟩ (by simp) rfl) rfl
    refine ⟨_, 19, rfl, rfl, eg, ?_⟩
    clear eg
    have hcc := hA.const
    clear hA hp
    refine Reg.out_value (v := .bool false) ?_ ⟨x, rfl, PPres.refl _ _ _, hI.same 12 (Reg.Keeps.refl _)⟩
    go_simp
  · refine Reg.GStepAt.plain (i := 13) rfl ?_
    intro x L ev w hI hk hp hA
    have e19 : ev (.tmp 19) = .bool false := hA.val 2 _ 19 rfl (hp ⟨2, .data⟩ (by simp) rfl) rfl
    have e29 : ev (.tmp 29) = .bool false := hA.val 12 _ 29 rfl (hp ⟨12, .data⟩ (by simp) rfl) rfl
    have hcc := hA.const
    clear hA hp
    refine Reg.out_value (v := .bool false) ?_ ⟨x, rfl, PPres.refl _ _ _, hI.same 13 (Reg.Keeps.refl _)⟩
    go_simp
  · refine Reg.GStepAt.plain (i := 14) rfl ?_
    intro x L ev w hI hk hp hA
    have e30 : ev (.tmp 30) = .bool false := hA.val 13 _ 30 rfl (hp ⟨13, .data⟩ (by simp) rfl) rfl
    have hcc := hA.const
    clear hA hp
    refine Reg.out_value (v := .bool false) ?_ ⟨x, rfl, PPres.refl _ _ _, hI.same 14 (Reg.Keeps.refl _)⟩
    go_simp
  · refine Reg.GStepAt.guarded (i := 15) rfl ?_
    intro x L ev w hI hk hp hA
    have e11 : ev (.tmp 11) = .func (.func 18) #[] #[.pointer (some ⟨bx, 0, none⟩)] := hA.oldNone 11 (by kernel_rfl)
    have eg : ev (.tmp 31) = .bool false := hA.val 14 _ 31 rfl (hp ⟨14, .guard⟩ (by simp) rfl) rfl
    refine ⟨_, 31, rfl, rfl, eg, ?_⟩
    clear eg
    have hcc := hA.const
    clear hA hp
    refine Reg.out_value (v := .func (.func 18) #[] #[.pointer (some ⟨bx, 0, none⟩)]) ?_ ⟨x, rfl, PPres.refl _ _ _, hI.same 15 (Reg.Keeps.refl _)⟩
    go_simp
  · refine Reg.GStepAt.guarded (i := 16) rfl ?_
    intro x L ev w hI hk hp hA
    have e32 : ev (.tmp 32) = .func (.func 18) #[] #[.pointer (some ⟨bx, 0, none⟩)] := hA.val 15 _ 32 rfl (hp ⟨15, .data⟩ (by simp) rfl) rfl
    have eg : ev (.tmp 31) = .bool false := hA.val 14 _ 31 rfl (hp ⟨14, .guard⟩ (by simp) rfl) rfl
    refine ⟨_, 31, rfl, rfl, eg, ?_⟩
    clear eg
    have c14 : L.getD 14 false = true := hp ⟨14, .chain⟩ (by simp) rfl
    have c10 : L.getD 10 false = true := hA.closed 14 _ rfl c14 ⟨10, .chain⟩ (by simp) rfl
    have c6 : L.getD 6 false = true := hA.closed 10 _ rfl c10 ⟨6, .chain⟩ (by simp) rfl
    have c4 : L.getD 4 false = true := hA.closed 6 _ rfl c6 ⟨4, .data⟩ (by simp) rfl
    have c13 : L.getD 13 false = true := hA.closed 14 _ rfl c14 ⟨13, .data⟩ (by simp) rfl
    have c12 : L.getD 12 false = true := hA.closed 13 _ rfl c13 ⟨12, .data⟩ (by simp) rfl
    have c7 : L.getD 7 false = true := hA.closed 12 _ rfl c12 ⟨7, .data⟩ (by simp) rfl
    have lt : x.1 < 3 := hI.link (16, 3) (by simp) (getD_false hk)
    have hcc := hA.const
    clear hA hp
    refine Reg.out_call (f := 18) (args := #[.pointer (some ⟨bx, 0, none⟩)]) (w0 := w) ?_ ?_
    · go_simp
    refine (box_any bx t w ((hI.bel.cell (p := ⟨bx, 0, none⟩) hbx).trans hcx) (by omega)).mono ?_
    rintro e w' ⟨v', rfl, ho, hkp, hob⟩
    exact ⟨v', rfl, (3, v'), ⟨Nat.le_refl _, fun _ => rfl⟩, PPres.next lt, PI.next 16 3 v' (hI.bel.trans (hkp.mono hI.bel.size)) (fun j hj => by rw [hob] at hj; injection hj with hj; have := hI.bel.size; omega) ho hk (List.forall_mem_cons.2 ⟨.inr (.inr c4), List.forall_mem_cons.2 ⟨.inr (.inr c6), List.forall_mem_cons.2 ⟨.inr (.inr c7), List.forall_mem_cons.2 ⟨.inr (.inl rfl), List.forall_mem_cons.2 ⟨.inl (by decide), List.forall_mem_cons.2 ⟨.inl (by decide), fun _ h => by cases h⟩⟩⟩⟩⟩⟩) hI⟩
  · refine Reg.GStepAt.guarded (i := 17) rfl ?_
    intro x L ev w hI hk hp hA
    have e2 : ev (.tmp 2) = .int .i64 m := hA.oldNone 2 (by kernel_rfl)
    have eg : ev (.tmp 31) = .bool false := hA.val 14 _ 31 rfl (hp ⟨14, .guard⟩ (by simp) rfl) rfl
    refine ⟨_, 31, rfl, rfl, eg, ?_⟩
    clear eg
    have hcc := hA.const
    clear hA hp
    refine Reg.out_value (v := .int .i64 m) ?_ ⟨x, rfl, PPres.refl _ _ _, hI.same 17 (Reg.Keeps.refl _)⟩
    go_simp
  · refine Reg.GStepAt.guarded (i := 18) rfl ?_
    intro x L ev w hI hk hp hA
    have e33 : stR 3 (ev (.tmp 33)) x w := hA.val 16 _ 33 rfl (hp ⟨16, .data⟩ (by simp) rfl) rfl
    have e34 : ev (.tmp 34) = .int .i64 m := hA.val 17 _ 34 rfl (hp ⟨17, .data⟩ (by simp) rfl) rfl
    have eg : ev (.tmp 31) = .bool false := hA.val 14 _ 31 rfl (hp ⟨14, .guard⟩ (by simp) rfl) rfl
    refine ⟨_, 31, rfl, rfl, eg, ?_⟩
    clear eg
    have c14 : L.getD 14 false = true := hp ⟨14, .guard⟩ (by simp) rfl
    have c10 : L.getD 10 false = true := hA.closed 14 _ rfl c14 ⟨10, .chain⟩ (by simp) rfl
    have c6 : L.getD 6 false = true := hA.closed 10 _ rfl c10 ⟨6, .chain⟩ (by simp) rfl
    have c4 : L.getD 4 false = true := hA.closed 6 _ rfl c6 ⟨4, .data⟩ (by simp) rfl
    have c13 : L.getD 13 false = true := hA.closed 14 _ rfl c14 ⟨13, .data⟩ (by simp) rfl
    have c12 : L.getD 12 false = true := hA.closed 13 _ rfl c13 ⟨12, .data⟩ (by simp) rfl
    have c7 : L.getD 7 false = true := hA.closed 12 _ rfl c12 ⟨7, .data⟩ (by simp) rfl
    have c16 : L.getD 16 false = true := hp ⟨16, .data⟩ (by simp) rfl
    have lt : x.1 < 4 := hI.link (18, 4) (by simp) (getD_false hk)
    have hcc := hA.const
    have hcf := hA.func
    clear hA hp
    have hx : x.1 = 3 := by have := e33.1; omega
    have hv := e33.2 hx
    have ho0 : Sl.Own w (ev (.tmp 33)) (Sl.cells t.data.toList) := by
      have := hI.own (by omega)
      rw [hx, hv] at this
      exact this
    have hb0 := hI.blk
    rw [hv] at hb0
    refine Reg.out_call (f := 21) (args := #[ev (.tmp 33), .int .i64 m]) (w0 := w) ?_ ?_
    · clear e33 hv ho0 hb0
      go_simp
    refine (Hc2.out (ev (.tmp 33)) w ho0).mono ?_
    rintro e w' ⟨v', rfl, ho, hf, _⟩
    exact ⟨v', rfl, (4, v'), ⟨Nat.le_refl _, fun _ => rfl⟩, PPres.next lt, PI.next 18 4 v' (hI.bel.trans (hf.below hI.bel.size hb0)) (fun j hj => by rcases hf.lies j hj with h | h; exact hb0 j h; have := hI.bel.size; omega) (Hl2.out _ _ ho) hk (List.forall_mem_cons.2 ⟨.inr (.inr c4), List.forall_mem_cons.2 ⟨.inr (.inr c6), List.forall_mem_cons.2 ⟨.inr (.inr c7), List.forall_mem_cons.2 ⟨.inr (.inr c16), List.forall_mem_cons.2 ⟨.inr (.inl rfl), List.forall_mem_cons.2 ⟨.inl (by decide), fun _ h => by cases h⟩⟩⟩⟩⟩⟩) hI⟩
  · refine Reg.GStepAt.guarded (i := 19) rfl ?_
    intro x L ev w hI hk hp hA
    have e35 : stR 4 (ev (.tmp 35)) x w := hA.val 18 _ 35 rfl (hp ⟨18, .data⟩ (by simp) rfl) rfl
    have eg : ev (.tmp 31) = .bool false := hA.val 14 _ 31 rfl (hp ⟨14, .guard⟩ (by simp) rfl) rfl
    refine ⟨_, 31, rfl, rfl, eg, ?_⟩
    clear eg
    have hcc := hA.const
    clear hA hp
    have lt : x.1 < 5 := hI.link (19, 5) (by simp) (getD_false hk)
    have hx : x.1 = 4 := by have := e35.1; omega
    have hv := e35.2 hx
    have ho0 : Sl.Own w (ev (.tmp 35)) (Sl.cells l2) := by
      have := hI.own (by omega)
      rw [hx, hv] at this
      exact this
    have hst := HsX2.out w _ ho0
    clear e35 hv ho0
    refine Reg.out_value (v := .string X2) ?_ ⟨x, rfl, PPres.refl _ _ _, hI.same 19 (Reg.Keeps.refl _)⟩
    go_simp
  · refine Reg.GStepAt.guarded (i := 20) rfl ?_
    intro x L ev w hI hk hp hA
    have e5 : ev (.tmp 5) = .pointer (some ⟨bx, 0, none⟩) := hA.oldNone 5 (by kernel_rfl)
    have eg : ev (.tmp 31) = .bool false := hA.val 14 _ 31 rfl (hp ⟨14, .guard⟩ (by simp) rfl) rfl
    refine ⟨_, 31, rfl, rfl, eg, ?_⟩
    clear eg
    have hcc := hA.const
    clear hA hp
    have hcw := (hI.bel.cell (p := ⟨bx, 0, none⟩) hbx).trans hcx
    refine Reg.out_value (v := .string t) ?_ ⟨x, rfl, PPres.refl _ _ _, hI.same 20 (Reg.Keeps.refl _)⟩
    go_simp
  · refine Reg.GStepAt.guarded (i := 21) rfl ?_
    intro x L ev w hI hk hp hA
    have e2 : ev (.tmp 2) = .int .i64 m := hA.oldNone 2 (by kernel_rfl)
    have eg : ev (.tmp 31) = .bool false := hA.val 14 _ 31 rfl (hp ⟨14, .guard⟩ (by simp) rfl) rfl
    refine ⟨_, 31, rfl, rfl, eg, ?_⟩
    clear eg
    have hcc := hA.const
    clear hA hp
    refine Reg.out_value (v := .int .i64 m) ?_ ⟨x, rfl, PPres.refl _ _ _, hI.same 21 (Reg.Keeps.refl _)⟩
    go_simp
  · refine Reg.GStepAt.guarded (i := 22) rfl ?_
    intro x L ev w hI hk hp hA
    have e38 : ev (.tmp 38) = .int .i64 m := hA.val 21 _ 38 rfl (hp ⟨21, .data⟩ (by simp) rfl) rfl
    have eg : ev (.tmp 31) = .bool false := hA.val 14 _ 31 rfl (hp ⟨14, .guard⟩ (by simp) rfl) rfl
    refine ⟨_, 31, rfl, rfl, eg, ?_⟩
    clear eg
    have hcc := hA.const
    have hcf := hA.func
    clear hA hp
    refine Reg.out_call (f := 22) (args := #[.int .i64 m]) (w0 := w) ?_ ?_
    · go_simp
    refine (Hr2.out w).mono ?_
    rintro e w' ⟨rfl, hkp⟩
    exact ⟨_, rfl, x, rfl, PPres.refl _ _ _, hI.same 22 hkp⟩
  · refine Reg.GStepAt.guarded (i := 23) rfl ?_
    intro x L ev w hI hk hp hA
    have e37 : ev (.tmp 37) = .string t := hA.val 20 _ 37 rfl (hp ⟨20, .data⟩ (by simp) rfl) rfl
    have e39 : ev (.tmp 39) = .string N2 := hA.val 22 _ 39 rfl (hp ⟨22, .data⟩ (by simp) rfl) rfl
    have eg : ev (.tmp 31) = .bool false := hA.val 14 _ 31 rfl (hp ⟨14, .guard⟩ (by simp) rfl) rfl
    refine ⟨_, 31, rfl, rfl, eg, ?_⟩
    clear eg
    have hcc := hA.const
    clear hA hp
    refine Reg.out_value (v := .string X2) ?_ ⟨x, rfl, PPres.refl _ _ _, hI.same 23 (Reg.Keeps.refl _)⟩
    go_simp
  · refine Reg.GStepAt.guarded (i := 24) rfl ?_
    intro x L ev w hI hk hp hA
    have e36 : ev (.tmp 36) = .string X2 := hA.val 19 _ 36 rfl (hp ⟨19, .data⟩ (by simp) rfl) rfl
    have e40 : ev (.tmp 40) = .string X2 := hA.val 23 _ 40 rfl (hp ⟨23, .data⟩ (by simp) rfl) rfl
    have eg : ev (.tmp 31) = .bool false := hA.val 14 _ 31 rfl (hp ⟨14, .guard⟩ (by simp) rfl) rfl
    refine ⟨_, 31, rfl, rfl, eg, ?_⟩
    clear eg
    have hcc := hA.const
    clear hA hp
    refine Reg.out_value (v := .bool false) ?_ ⟨x, rfl, PPres.refl _ _ _, hI.same 24 (Reg.Keeps.refl _)⟩
    go_simp
  · refine Reg.GStepAt.plain (i := 25) rfl ?_
    intro x L ev w hI hk hp hA
    have e31 : ev (.tmp 31) = .bool false := hA.val 14 _ 31 rfl (hp ⟨14, .data⟩ (by simp) rfl) rfl
    have e41 : ev (.tmp 41) = .bool false := hA.val 24 _ 41 rfl (hp ⟨24, .data⟩ (by simp) rfl) rfl
    have hcc := hA.const
    clear hA hp
    refine Reg.out_value (v := .bool false) ?_ ⟨x, rfl, PPres.refl _ _ _, hI.same 25 (Reg.Keeps.refl _)⟩
    go_simp
  intro x L act w2 hall hI hF
  have h42 : act.eval (.tmp 42) = .bool false := hF.val 25 _ 42 rfl (hall 25 (by simp)) rfl
  have hsz : act.tmps.size = 82 := hF.size
  have hd : act.defers = [] := hF.defers
  have g1 : act.eval (.tmp 1) = .int .u64 (n : Int) := hF.at.oldNone 1 (by kernel_rfl)
  have g3 : act.eval (.tmp 3) = .int .u32 (k : Int) := hF.at.oldNone 3 (by kernel_rfl)
  have g4 : act.eval (.tmp 4) = .string u := hF.at.oldNone 4 (by kernel_rfl)
  have g5 : act.eval (.tmp 5) = .pointer (some ⟨bx, 0, none⟩) := hF.at.oldNone 5 (by kernel_rfl)
  have g11 : act.eval (.tmp 11) = .func (.func 18) #[] #[.pointer (some ⟨bx, 0, none⟩)] := hF.at.oldNone 11 (by kernel_rfl)
  have HB2 : Hid (Below w.heap.size w w2) := HB1.out.trans (hI.bel.mono HB1.out.size)
  have hcx2 : w2.cell? ⟨bx, 0, none⟩ = some (.string t) := (hI.bel.cell (p := ⟨bx, 0, none⟩) hbx).trans hcx
  have hbx2 : bx < w2.heap.size := Nat.lt_of_lt_of_le hbx hI.bel.size
  clear hF hall hI hI0 hcx hbx HB1 Hc1 Hl1 HsX1 Hr1 Hc2 Hl2 HsX2 Hr2 hcat1 hcat2
  go_wp2_with fail
  refine wp_cond_false h42 ?_
  go_wp2_with fail
  have hY3 : Y3.size = t.size + N3.size := by rw [← hcat3, ByteArray.size_append]
  have z3 : t.size + N3.size ≤ 9223372036854775807 := by omega
  have z3b : Y3.size + u.size ≤ 9223372036854775807 := by omega
  have z4 : t.size + N4.size ≤ 9223372036854775807 := by omega
  have z5 : t.size + N5.size ≤ 9223372036854775807 := by omega
  clear hY3
  have hw1 := u64_wrap_nat u.size (by omega)
  have hw2 := u64_wrap_nat k (by omega)
  have hI0 : PI w2 (want5 t.data.toList l3 l4 l5) [(1, 1), (3, 2), (4, 3), (16, 3), (18, 4), (19, 5), (29, 5), (31, 6), (32, 7)] (0, .slice none 0 0) (Array.replicate 40 false) w2.drew := ⟨(Below.refl _ _).drew, fun _ h => by simp [Value.ownBlock] at h, fun h => absurd h (Nat.lt_irrefl _), by simp⟩
  refine Reg.wp_region_ghost (Reg.gofList (putR5 t u n k bx N3 Y3 X3 N4 X4 N5 X5)) PPres (PI w2 (want5 t.data.toList l3 l4 l5) [(1, 1), (3, 2), (4, 3), (16, 3), (18, 4), (19, 5), (29, 5), (31, 6), (32, 7)]) (0, .slice none 0 0) (by kernel_rfl) (by rw [hsz]; kernel_rfl) (Reg.GAllKept.at _ (putR5_kept t u n k bx N3 Y3 X3 N4 X4 N5 X5)) hI0 ⟨?_, ?_, ?_, ?_, ?_, ?_, ?_, ?_, ?_, ?_, ?_, ?_, ?_, ?_, ?_, ?_, ?_, ?_, ?_, ?_, ?_, ?_, ?_, ?_, ?_, ?_, ?_, ?_, ?_, ?_, ?_, ?_, ?_, ?_, ?_, ?_, ?_, ?_, ?_, ?_, trivial⟩ ?_
  · refine Reg.GStepAt.plain (i := 0) rfl ?_
    intro x L ev w hI hk hp hA
    have e11 : ev (.tmp 11) = .func (.func 18) #[] #[.pointer (some ⟨bx, 0, none⟩)] := (hA.oldNone 11 (by kernel_rfl)).trans g11
    have hcc := hA.const
    clear hA hp
    refine Reg.out_value (v := .func (.func 18) #[] #[.pointer (some ⟨bx, 0, none⟩)]) ?_ ⟨x, rfl, PPres.refl _ _ _, hI.same 0 (Reg.Keeps.refl _)⟩
    go_simp
  · refine Reg.GStepAt.plain (i := 1) rfl ?_
    intro x L ev w hI hk hp hA
    have e43 : ev (.tmp 43) = .func (.func 18) #[] #[.pointer (some ⟨bx, 0, none⟩)] := hA.val 0 _ 43 rfl (hp ⟨0, .data⟩ (by simp) rfl) rfl
    have lt : x.1 < 1 := hI.link (1, 1) (by simp) (getD_false hk)
    have hcc := hA.const
    clear hA hp
    refine Reg.out_call (f := 18) (args := #[.pointer (some ⟨bx, 0, none⟩)]) (w0 := w) ?_ ?_
    · go_simp
    refine (box_any bx t w ((hI.bel.cell (p := ⟨bx, 0, none⟩) hbx2).trans hcx2) (by omega)).mono ?_
    rintro e w' ⟨v', rfl, ho, hkp, hob⟩
    exact ⟨v', rfl, (1, v'), ⟨Nat.le_refl _, fun _ => rfl⟩, PPres.next lt, PI.next 1 1 v' (hI.bel.trans (hkp.mono hI.bel.size)) (fun j hj => by rw [hob] at hj; injection hj with hj; have := hI.bel.size; omega) ho hk (List.forall_mem_cons.2 ⟨.inr (.inl rfl), List.forall_mem_cons.2 ⟨.inl (by decide), List.forall_mem_cons.2 ⟨.inl (by decide), List.forall_mem_cons.2 ⟨.inl (by decide), List.forall_mem_cons.2 ⟨.inl (by decide), List.forall_mem_cons.2 ⟨.inl (by decide), List.forall_mem_cons.2 ⟨.inl (by decide), List.forall_mem_cons.2 ⟨.inl (by decide), List.forall_mem_cons.2 ⟨.inl (by decide), fun _ h => by cases h⟩⟩⟩⟩⟩⟩⟩⟩⟩) hI⟩
  · refine Reg.GStepAt.plain (i := 2) rfl ?_
    intro x L ev w hI hk hp hA
    have e4 : ev (.tmp 4) = .string u := (hA.oldNone 4 (by kernel_rfl)).trans g4
    have hcc := hA.const
    clear hA hp
    refine Reg.out_value (v := .string u) ?_ ⟨x, rfl, PPres.refl _ _ _, hI.same 2 (Reg.Keeps.refl _)⟩
    go_simp
  · refine Reg.GStepAt.plain (i := 3) rfl ?_
    intro x L ev w hI hk hp hA
    have e44 : stR 1 (ev (.tmp 44)) x w := hA.val 1 _ 44 rfl (hp ⟨1, .data⟩ (by simp) rfl) rfl
    have e45 : ev (.tmp 45) = .string u := hA.val 2 _ 45 rfl (hp ⟨2, .data⟩ (by simp) rfl) rfl
    have c1 : L.getD 1 false = true := hp ⟨1, .data⟩ (by simp) rfl
    have lt : x.1 < 2 := hI.link (3, 2) (by simp) (getD_false hk)
    have hcc := hA.const
    have hcf := hA.func
    clear hA hp
    have hx : x.1 = 1 := by have := e44.1; omega
    have hv := e44.2 hx
    have ho0 : Sl.Own w (ev (.tmp 44)) (Sl.cells t.data.toList) := by
      have := hI.own (by omega)
      rw [hx, hv] at this
      exact this
    have hb0 := hI.blk
    rw [hv] at hb0
    refine Reg.out_call (f := 23) (args := #[ev (.tmp 44), .string u]) (w0 := w) ?_ ?_
    · clear e44 hv ho0 hb0
      go_simp
    refine (Hc3.out (ev (.tmp 44)) w ho0).mono ?_
    rintro e w' ⟨v', rfl, ho, hf, _⟩
    exact ⟨v', rfl, (2, v'), ⟨Nat.le_refl _, fun _ => rfl⟩, PPres.next lt, PI.next 3 2 v' (hI.bel.trans (hf.below hI.bel.size hb0)) (fun j hj => by rcases hf.lies j hj with h | h; exact hb0 j h; have := hI.bel.size; omega) (Hl3.out _ _ ho) hk (List.forall_mem_cons.2 ⟨.inr (.inr c1), List.forall_mem_cons.2 ⟨.inr (.inl rfl), List.forall_mem_cons.2 ⟨.inl (by decide), List.forall_mem_cons.2 ⟨.inl (by decide), List.forall_mem_cons.2 ⟨.inl (by decide), List.forall_mem_cons.2 ⟨.inl (by decide), List.forall_mem_cons.2 ⟨.inl (by decide), List.forall_mem_cons.2 ⟨.inl (by decide), List.forall_mem_cons.2 ⟨.inl (by decide), fun _ h => by cases h⟩⟩⟩⟩⟩⟩⟩⟩⟩) hI⟩
  · refine Reg.GStepAt.plain (i := 4) rfl ?_
    intro x L ev w hI hk hp hA
    have e46 : stR 2 (ev (.tmp 46)) x w := hA.val 3 _ 46 rfl (hp ⟨3, .data⟩ (by simp) rfl) rfl
    have hcc := hA.const
    clear hA hp
    have lt : x.1 < 3 := hI.link (4, 3) (by simp) (getD_false hk)
    have hx : x.1 = 2 := by have := e46.1; omega
    have hv := e46.2 hx
    have ho0 : Sl.Own w (ev (.tmp 46)) (Sl.cells l3) := by
      have := hI.own (by omega)
      rw [hx, hv] at this
      exact this
    have hst := HsX3.out w _ ho0
    clear e46 hv ho0
    refine Reg.out_value (v := .string X3) ?_ ⟨x, rfl, PPres.refl _ _ _, hI.same 4 (Reg.Keeps.refl _)⟩
    go_simp
  · refine Reg.GStepAt.plain (i := 5) rfl ?_
    intro x L ev w hI hk hp hA
    have e5 : ev (.tmp 5) = .pointer (some ⟨bx, 0, none⟩) := (hA.oldNone 5 (by kernel_rfl)).trans g5
    have hcc := hA.const
    clear hA hp
    have hcw := (hI.bel.cell (p := ⟨bx, 0, none⟩) hbx2).trans hcx2
    refine Reg.out_value (v := .string t) ?_ ⟨x, rfl, PPres.refl _ _ _, hI.same 5 (Reg.Keeps.refl _)⟩
    go_simp
  · refine Reg.GStepAt.plain (i := 6) rfl ?_
    intro x L ev w hI hk hp hA
    have e4 : ev (.tmp 4) = .string u := (hA.oldNone 4 (by kernel_rfl)).trans g4
    have hcc := hA.const
    clear hA hp
    refine Reg.out_value (v := .string u) ?_ ⟨x, rfl, PPres.refl _ _ _, hI.same 6 (Reg.Keeps.refl _)⟩
    go_simp
  · refine Reg.GStepAt.plain (i := 7) rfl ?_
    intro x L ev w hI hk hp hA
    have e49 : ev (.tmp 49) = .string u := hA.val 6 _ 49 rfl (hp ⟨6, .data⟩ (by simp) rfl) rfl
    have hcc := hA.const
    clear hA hp
    refine Reg.out_value (v := .int .i64 (u.size : Int)) ?_ ⟨x, rfl, PPres.refl _ _ _, hI.same 7 (Reg.Keeps.refl _)⟩
    go_simp
  · refine Reg.GStepAt.plain (i := 8) rfl ?_
    intro x L ev w hI hk hp hA
    have e50 : ev (.tmp 50) = .int .i64 (u.size : Int) := hA.val 7 _ 50 rfl (hp ⟨7, .data⟩ (by simp) rfl) rfl
    have hcc := hA.const
    clear hA hp
    refine Reg.out_value (v := .int .u64 (u.size : Int)) ?_ ⟨x, rfl, PPres.refl _ _ _, hI.same 8 (Reg.Keeps.refl _)⟩
    go_simp
  · refine Reg.GStepAt.plain (i := 9) rfl ?_
    intro x L ev w hI hk hp hA
    have e51 : ev (.tmp 51) = .int .u64 (u.size : Int) := hA.val 8 _ 51 rfl (hp ⟨8, .data⟩ (by simp) rfl) rfl
    have hcc := hA.const
    have hcf := hA.func
    clear hA hp
    refine Reg.out_call (f := 24) (args := #[.int .u64 (u.size : Int)]) (w0 := w) ?_ ?_
    · go_simp
    refine (Hr3.out w).mono ?_
    rintro e w' ⟨rfl, hkp⟩
    exact ⟨_, rfl, x, rfl, PPres.refl _ _ _, hI.same 9 hkp⟩
  · refine Reg.GStepAt.plain (i := 10) rfl ?_
    intro x L ev w hI hk hp hA
    have e48 : ev (.tmp 48) = .string t := hA.val 5 _ 48 rfl (hp ⟨5, .data⟩ (by simp) rfl) rfl
    have e52 : ev (.tmp 52) = .string N3 := hA.val 9 _ 52 rfl (hp ⟨9, .data⟩ (by simp) rfl) rfl
    have hcc := hA.const
    clear hA hp
    refine Reg.out_value (v := .string Y3) ?_ ⟨x, rfl, PPres.refl _ _ _, hI.same 10 (Reg.Keeps.refl _)⟩
    go_simp
  · refine Reg.GStepAt.plain (i := 11) rfl ?_
    intro x L ev w hI hk hp hA
    have e4 : ev (.tmp 4) = .string u := (hA.oldNone 4 (by kernel_rfl)).trans g4
    have hcc := hA.const
    clear hA hp
    refine Reg.out_value (v := .string u) ?_ ⟨x, rfl, PPres.refl _ _ _, hI.same 11 (Reg.Keeps.refl _)⟩
    go_simp
  · refine Reg.GStepAt.plain (i := 12) rfl ?_
    intro x L ev w hI hk hp hA
    have e53 : ev (.tmp 53) = .string Y3 := hA.val 10 _ 53 rfl (hp ⟨10, .data⟩ (by simp) rfl) rfl
    have e54 : ev (.tmp 54) = .string u := hA.val 11 _ 54 rfl (hp ⟨11, .data⟩ (by simp) rfl) rfl
    have hcc := hA.const
    clear hA hp
    refine Reg.out_value (v := .string X3) ?_ ⟨x, rfl, PPres.refl _ _ _, hI.same 12 (Reg.Keeps.refl _)⟩
    go_simp
  · refine Reg.GStepAt.plain (i := 13) rfl ?_
    intro x L ev w hI hk hp hA
    have e47 : ev (.tmp 47) = .string X3 := hA.val 4 _ 47 rfl (hp ⟨4, .data⟩ (by simp) rfl) rfl
    have e55 : ev (.tmp 55) = .string X3 := hA.val 12 _ 55 rfl (hp ⟨12, .data⟩ (by simp) rfl) rfl
    have hcc := hA.const
    clear hA hp
    refine Reg.out_value (v := .bool true) ?_ ⟨x, rfl, PPres.refl _ _ _, hI.same 13 (Reg.Keeps.refl _)⟩
    go_simp
  · refine Reg.GStepAt.plain (i := 14) rfl ?_
    intro x L ev w hI hk hp hA
    have e56 : ev (.tmp 56) = .bool true := hA.val 13 _ 56 rfl (hp ⟨13, .data⟩ (by simp) rfl) rfl
    have hcc := hA.const
    clear hA hp
    refine Reg.out_value (v := .bool true) ?_ ⟨x, rfl, PPres.refl _ _ _, hI.same 14 (Reg.Keeps.refl _)⟩
    go_simp
  · refine Reg.GStepAt.guarded (i := 15) rfl ?_
    intro x L ev w hI hk hp hA
    have e11 : ev (.tmp 11) = .func (.func 18) #[] #[.pointer (some ⟨bx, 0, none⟩)] := (hA.oldNone 11 (by kernel_rfl)).trans g11
    have eg : ev (.tmp 57) = .bool true := hA.val 14 _ 57 rfl (hp ⟨14, .guard⟩ (by simp) rfl) rfl
    refine ⟨_, 57, rfl, rfl, eg, ?_⟩
    clear eg
    have hcc := hA.const
    clear hA hp
    refine Reg.out_value (v := .func (.func 18) #[] #[.pointer (some ⟨bx, 0, none⟩)]) ?_ ⟨x, rfl, PPres.refl _ _ _, hI.same 15 (Reg.Keeps.refl _)⟩
    go_simp
  · refine Reg.GStepAt.guarded (i := 16) rfl ?_
    intro x L ev w hI hk hp hA
    have e58 : ev (.tmp 58) = .func (.func 18) #[] #[.pointer (some ⟨bx, 0, none⟩)] := hA.val 15 _ 58 rfl (hp ⟨15, .data⟩ (by simp) rfl) rfl
    have eg : ev (.tmp 57) = .bool true := hA.val 14 _ 57 rfl (hp ⟨14, .guard⟩ (by simp) rfl) rfl
    refine ⟨_, 57, rfl, rfl, eg, ?_⟩
    clear eg
    have c14 : L.getD 14 false = true := hp ⟨14, .chain⟩ (by simp) rfl
    have c9 : L.getD 9 false = true := hA.closed 14 _ rfl c14 ⟨9, .chain⟩ (by simp) rfl
    have c3 : L.getD 3 false = true := hA.closed 9 _ rfl c9 ⟨3, .chain⟩ (by simp) rfl
    have c1 : L.getD 1 false = true := hA.closed 3 _ rfl c3 ⟨1, .data⟩ (by simp) rfl
    have c13 : L.getD 13 false = true := hA.closed 14 _ rfl c14 ⟨13, .data⟩ (by simp) rfl
    have c4 : L.getD 4 false = true := hA.closed 13 _ rfl c13 ⟨4, .data⟩ (by simp) rfl
    have lt : x.1 < 3 := hI.link (16, 3) (by simp) (getD_false hk)
    have hcc := hA.const
    clear hA hp
    refine Reg.out_call (f := 18) (args := #[.pointer (some ⟨bx, 0, none⟩)]) (w0 := w) ?_ ?_
    · go_simp
    refine (box_any bx t w ((hI.bel.cell (p := ⟨bx, 0, none⟩) hbx2).trans hcx2) (by omega)).mono ?_
    rintro e w' ⟨v', rfl, ho, hkp, hob⟩
    exact ⟨v', rfl, (3, v'), ⟨Nat.le_refl _, fun _ => rfl⟩, PPres.next lt, PI.next 16 3 v' (hI.bel.trans (hkp.mono hI.bel.size)) (fun j hj => by rw [hob] at hj; injection hj with hj; have := hI.bel.size; omega) ho hk (List.forall_mem_cons.2 ⟨.inr (.inr c1), List.forall_mem_cons.2 ⟨.inr (.inr c3), List.forall_mem_cons.2 ⟨.inr (.inr c4), List.forall_mem_cons.2 ⟨.inr (.inl rfl), List.forall_mem_cons.2 ⟨.inl (by decide), List.forall_mem_cons.2 ⟨.inl (by decide), List.forall_mem_cons.2 ⟨.inl (by decide), List.forall_mem_cons.2 ⟨.inl (by decide), List.forall_mem_cons.2 ⟨.inl (by decide), fun _ h => by cases h⟩⟩⟩⟩⟩⟩⟩⟩⟩) hI⟩
  · refine Reg.GStepAt.guarded (i := 17) rfl ?_
    intro x L ev w hI hk hp hA
    have e3 : ev (.tmp 3) = .int .u32 (k : Int) := (hA.oldNone 3 (by kernel_rfl)).trans g3
    have eg : ev (.tmp 57) = .bool true := hA.val 14 _ 57 rfl (hp ⟨14, .guard⟩ (by simp) rfl) rfl
    refine ⟨_, 57, rfl, rfl, eg, ?_⟩
    clear eg
    have hcc := hA.const
    clear hA hp
    refine Reg.out_value (v := .int .u32 (k : Int)) ?_ ⟨x, rfl, PPres.refl _ _ _, hI.same 17 (Reg.Keeps.refl _)⟩
    go_simp
  · refine Reg.GStepAt.guarded (i := 18) rfl ?_
    intro x L ev w hI hk hp hA
    have e59 : stR 3 (ev (.tmp 59)) x w := hA.val 16 _ 59 rfl (hp ⟨16, .data⟩ (by simp) rfl) rfl
    have e60 : ev (.tmp 60) = .int .u32 (k : Int) := hA.val 17 _ 60 rfl (hp ⟨17, .data⟩ (by simp) rfl) rfl
    have eg : ev (.tmp 57) = .bool true := hA.val 14 _ 57 rfl (hp ⟨14, .guard⟩ (by simp) rfl) rfl
    refine ⟨_, 57, rfl, rfl, eg, ?_⟩
    clear eg
    have c14 : L.getD 14 false = true := hp ⟨14, .guard⟩ (by simp) rfl
    have c9 : L.getD 9 false = true := hA.closed 14 _ rfl c14 ⟨9, .chain⟩ (by simp) rfl
    have c3 : L.getD 3 false = true := hA.closed 9 _ rfl c9 ⟨3, .chain⟩ (by simp) rfl
    have c1 : L.getD 1 false = true := hA.closed 3 _ rfl c3 ⟨1, .data⟩ (by simp) rfl
    have c13 : L.getD 13 false = true := hA.closed 14 _ rfl c14 ⟨13, .data⟩ (by simp) rfl
    have c4 : L.getD 4 false = true := hA.closed 13 _ rfl c13 ⟨4, .data⟩ (by simp) rfl
    have c16 : L.getD 16 false = true := hp ⟨16, .data⟩ (by simp) rfl
    have lt : x.1 < 4 := hI.link (18, 4) (by simp) (getD_false hk)
    have hcc := hA.const
    have hcf := hA.func
    clear hA hp
    have hx : x.1 = 3 := by have := e59.1; omega
    have hv := e59.2 hx
    have ho0 : Sl.Own w (ev (.tmp 59)) (Sl.cells t.data.toList) := by
      have := hI.own (by omega)
      rw [hx, hv] at this
      exact this
    have hb0 := hI.blk
    rw [hv] at hb0
    refine Reg.out_call (f := 25) (args := #[ev (.tmp 59), .int .u32 (k : Int)]) (w0 := w) ?_ ?_
    · clear e59 hv ho0 hb0
      go_simp
    refine (Hc4.out (ev (.tmp 59)) w ho0).mono ?_
    rintro e w' ⟨v', rfl, ho, hf, _⟩
    exact ⟨v', rfl, (4, v'), ⟨Nat.le_refl _, fun _ => rfl⟩, PPres.next lt, PI.next 18 4 v' (hI.bel.trans (hf.below hI.bel.size hb0)) (fun j hj => by rcases hf.lies j hj with h | h; exact hb0 j h; have := hI.bel.size; omega) (Hl4.out _ _ ho) hk (List.forall_mem_cons.2 ⟨.inr (.inr c1), List.forall_mem_cons.2 ⟨.inr (.inr c3), List.forall_mem_cons.2 ⟨.inr (.inr c4), List.forall_mem_cons.2 ⟨.inr (.inr c16), List.forall_mem_cons.2 ⟨.inr (.inl rfl), List.forall_mem_cons.2 ⟨.inl (by decide), List.forall_mem_cons.2 ⟨.inl (by decide), List.forall_mem_cons.2 ⟨.inl (by decide), List.forall_mem_cons.2 ⟨.inl (by decide), fun _ h => by cases h⟩⟩⟩⟩⟩⟩⟩⟩⟩) hI⟩
  · refine Reg.GStepAt.guarded (i := 19) rfl ?_
    intro x L ev w hI hk hp hA
    have e61 : stR 4 (ev (.tmp 61)) x w := hA.val 18 _ 61 rfl (hp ⟨18, .data⟩ (by simp) rfl) rfl
    have eg : ev (.tmp 57) = .bool true := hA.val 14 _ 57 rfl (hp ⟨14, .guard⟩ (by simp) rfl) rfl
    refine ⟨_, 57, rfl, rfl, eg, ?_⟩
    clear eg
    have hcc := hA.const
    clear hA hp
    have lt : x.1 < 5 := hI.link (19, 5) (by simp) (getD_false hk)
    have hx : x.1 = 4 := by have := e61.1; omega
    have hv := e61.2 hx
    have ho0 : Sl.Own w (ev (.tmp 61)) (Sl.cells l4) := by
      have := hI.own (by omega)
      rw [hx, hv] at this
      exact this
    have hst := HsX4.out w _ ho0
    clear e61 hv ho0
    refine Reg.out_value (v := .string X4) ?_ ⟨x, rfl, PPres.refl _ _ _, hI.same 19 (Reg.Keeps.refl _)⟩
    go_simp
  · refine Reg.GStepAt.guarded (i := 20) rfl ?_
    intro x L ev w hI hk hp hA
    have e5 : ev (.tmp 5) = .pointer (some ⟨bx, 0, none⟩) := (hA.oldNone 5 (by kernel_rfl)).trans g5
    have eg : ev (.tmp 57) = .bool true := hA.val 14 _ 57 rfl (hp ⟨14, .guard⟩ (by simp) rfl) rfl
    refine ⟨_, 57, rfl, rfl, eg, ?_⟩
    clear eg
    have hcc := hA.const
    clear hA hp
    have hcw := (hI.bel.cell (p := ⟨bx, 0, none⟩) hbx2).trans hcx2
    refine Reg.out_value (v := .string t) ?_ ⟨x, rfl, PPres.refl _ _ _, hI.same 20 (Reg.Keeps.refl _)⟩
    go_simp
  · refine Reg.GStepAt.guarded (i := 21) rfl ?_
    intro x L ev w hI hk hp hA
    have e3 : ev (.tmp 3) = .int .u32 (k : Int) := (hA.oldNone 3 (by kernel_rfl)).trans g3
    have eg : ev (.tmp 57) = .bool true := hA.val 14 _ 57 rfl (hp ⟨14, .guard⟩ (by simp) rfl) rfl
    refine ⟨_, 57, rfl, rfl, eg, ?_⟩
    clear eg
    have hcc := hA.const
    clear hA hp
    refine Reg.out_value (v := .int .u32 (k : Int)) ?_ ⟨x, rfl, PPres.refl _ _ _, hI.same 21 (Reg.Keeps.refl _)⟩
    go_simp
  · refine Reg.GStepAt.guarded (i := 22) rfl ?_
    intro x L ev w hI hk hp hA
    have e64 : ev (.tmp 64) = .int .u32 (k : Int) := hA.val 21 _ 64 rfl (hp ⟨21, .data⟩ (by simp) rfl) rfl
    have eg : ev (.tmp 57) = .bool true := hA.val 14 _ 57 rfl (hp ⟨14, .guard⟩ (by simp) rfl) rfl
    refine ⟨_, 57, rfl, rfl, eg, ?_⟩
    clear eg
    have hcc := hA.const
    clear hA hp
    refine Reg.out_value (v := .int .u64 (k : Int)) ?_ ⟨x, rfl, PPres.refl _ _ _, hI.same 22 (Reg.Keeps.refl _)⟩
    go_simp
  · refine Reg.GStepAt.guarded (i := 23) rfl ?_
    intro x L ev w hI hk hp hA
    have e65 : ev (.tmp 65) = .int .u64 (k : Int) := hA.val 22 _ 65 rfl (hp ⟨22, .data⟩ (by simp) rfl) rfl
    have eg : ev (.tmp 57) = .bool true := hA.val 14 _ 57 rfl (hp ⟨14, .guard⟩ (by simp) rfl) rfl
    refine ⟨_, 57, rfl, rfl, eg, ?_⟩
    clear eg
    have hcc := hA.const
    have hcf := hA.func
    clear hA hp
    refine Reg.out_call (f := 26) (args := #[.int .u64 (k : Int), .int .i64 4]) (w0 := w) ?_ ?_
    · go_simp
    refine (Hr4.out w).mono ?_
    rintro e w' ⟨rfl, hkp⟩
    exact ⟨_, rfl, x, rfl, PPres.refl _ _ _, hI.same 23 hkp⟩
  · refine Reg.GStepAt.guarded (i := 24) rfl ?_
    intro x L ev w hI hk hp hA
    have e63 : ev (.tmp 63) = .string t := hA.val 20 _ 63 rfl (hp ⟨20, .data⟩ (by simp) rfl) rfl
    have e66 : ev (.tmp 66) = .string N4 := hA.val 23 _ 66 rfl (hp ⟨23, .data⟩ (by simp) rfl) rfl
    have eg : ev (.tmp 57) = .bool true := hA.val 14 _ 57 rfl (hp ⟨14, .guard⟩ (by simp) rfl) rfl
    refine ⟨_, 57, rfl, rfl, eg, ?_⟩
    clear eg
    have hcc := hA.const
    clear hA hp
    refine Reg.out_value (v := .string X4) ?_ ⟨x, rfl, PPres.refl _ _ _, hI.same 24 (Reg.Keeps.refl _)⟩
    go_simp
  · refine Reg.GStepAt.guarded (i := 25) rfl ?_
    intro x L ev w hI hk hp hA
    have e62 : ev (.tmp 62) = .string X4 := hA.val 19 _ 62 rfl (hp ⟨19, .data⟩ (by simp) rfl) rfl
    have e67 : ev (.tmp 67) = .string X4 := hA.val 24 _ 67 rfl (hp ⟨24, .data⟩ (by simp) rfl) rfl
    have eg : ev (.tmp 57) = .bool true := hA.val 14 _ 57 rfl (hp ⟨14, .guard⟩ (by simp) rfl) rfl
    refine ⟨_, 57, rfl, rfl, eg, ?_⟩
    clear eg
    have hcc := hA.const
    clear hA hp
    refine Reg.out_value (v := .bool true) ?_ ⟨x, rfl, PPres.refl _ _ _, hI.same 25 (Reg.Keeps.refl _)⟩
    go_simp
  · refine Reg.GStepAt.plain (i := 26) rfl ?_
    intro x L ev w hI hk hp hA
    have e57 : ev (.tmp 57) = .bool true := hA.val 14 _ 57 rfl (hp ⟨14, .data⟩ (by simp) rfl) rfl
    have e68 : ev (.tmp 68) = .bool true := hA.val 25 _ 68 rfl (hp ⟨25, .data⟩ (by simp) rfl) rfl
    have hcc := hA.const
    clear hA hp
    refine Reg.out_value (v := .bool true) ?_ ⟨x, rfl, PPres.refl _ _ _, hI.same 26 (Reg.Keeps.refl _)⟩
    go_simp
  · refine Reg.GStepAt.plain (i := 27) rfl ?_
    intro x L ev w hI hk hp hA
    have e69 : ev (.tmp 69) = .bool true := hA.val 26 _ 69 rfl (hp ⟨26, .data⟩ (by simp) rfl) rfl
    have hcc := hA.const
    clear hA hp
    refine Reg.out_value (v := .bool true) ?_ ⟨x, rfl, PPres.refl _ _ _, hI.same 27 (Reg.Keeps.refl _)⟩
    go_simp
  · refine Reg.GStepAt.guarded (i := 28) rfl ?_
    intro x L ev w hI hk hp hA
    have e11 : ev (.tmp 11) = .func (.func 18) #[] #[.pointer (some ⟨bx, 0, none⟩)] := (hA.oldNone 11 (by kernel_rfl)).trans g11
    have eg : ev (.tmp 70) = .bool true := hA.val 27 _ 70 rfl (hp ⟨27, .guard⟩ (by simp) rfl) rfl
    refine ⟨_, 70, rfl, rfl, eg, ?_⟩
    clear eg
    have hcc := hA.const
    clear hA hp
    refine Reg.out_value (v := .func (.func 18) #[] #[.pointer (some ⟨bx, 0, none⟩)]) ?_ ⟨x, rfl, PPres.refl _ _ _, hI.same 28 (Reg.Keeps.refl _)⟩
    go_simp
  · refine Reg.GStepAt.guarded (i := 29) rfl ?_
    intro x L ev w hI hk hp hA
    have e71 : ev (.tmp 71) = .func (.func 18) #[] #[.pointer (some ⟨bx, 0, none⟩)] := hA.val 28 _ 71 rfl (hp ⟨28, .data⟩ (by simp) rfl) rfl
    have eg : ev (.tmp 70) = .bool true := hA.val 27 _ 70 rfl (hp ⟨27, .guard⟩ (by simp) rfl) rfl
    refine ⟨_, 70, rfl, rfl, eg, ?_⟩
    clear eg
    have c27 : L.getD 27 false = true := hp ⟨27, .chain⟩ (by simp) rfl
    have c26 : L.getD 26 false = true := hA.closed 27 _ rfl c27 ⟨26, .data⟩ (by simp) rfl
    have c14 : L.getD 14 false = true := hA.closed 26 _ rfl c26 ⟨14, .data⟩ (by simp) rfl
    have c9 : L.getD 9 false = true := hA.closed 14 _ rfl c14 ⟨9, .chain⟩ (by simp) rfl
    have c3 : L.getD 3 false = true := hA.closed 9 _ rfl c9 ⟨3, .chain⟩ (by simp) rfl
    have c1 : L.getD 1 false = true := hA.closed 3 _ rfl c3 ⟨1, .data⟩ (by simp) rfl
    have c13 : L.getD 13 false = true := hA.closed 14 _ rfl c14 ⟨13, .data⟩ (by simp) rfl
    have c4 : L.getD 4 false = true := hA.closed 13 _ rfl c13 ⟨4, .data⟩ (by simp) rfl
    have c23 : L.getD 23 false = true := hA.closed 27 _ rfl c27 ⟨23, .chain⟩ (by simp) rfl
    have c18 : L.getD 18 false = true := hA.closed 23 _ rfl c23 ⟨18, .chain⟩ (by simp) rfl
    have c16 : L.getD 16 false = true := hA.closed 18 _ rfl c18 ⟨16, .data⟩ (by simp) rfl
    have c25 : L.getD 25 false = true := hA.closed 26 _ rfl c26 ⟨25, .data⟩ (by simp) rfl
    have c19 : L.getD 19 false = true := hA.closed 25 _ rfl c25 ⟨19, .data⟩ (by simp) rfl
    have lt : x.1 < 5 := hI.link (29, 5) (by simp) (getD_false hk)
    have hcc := hA.const
    clear hA hp
    refine Reg.out_call (f := 18) (args := #[.pointer (some ⟨bx, 0, none⟩)]) (w0 := w) ?_ ?_
    · go_simp
    refine (box_any bx t w ((hI.bel.cell (p := ⟨bx, 0, none⟩) hbx2).trans hcx2) (by omega)).mono ?_
    rintro e w' ⟨v', rfl, ho, hkp, hob⟩
    exact ⟨v', rfl, (5, v'), ⟨Nat.le_refl _, fun _ => rfl⟩, PPres.next lt, PI.next 29 5 v' (hI.bel.trans (hkp.mono hI.bel.size)) (fun j hj => by rw [hob] at hj; injection hj with hj; have := hI.bel.size; omega) ho hk (List.forall_mem_cons.2 ⟨.inr (.inr c1), List.forall_mem_cons.2 ⟨.inr (.inr c3), List.forall_mem_cons.2 ⟨.inr (.inr c4), List.forall_mem_cons.2 ⟨.inr (.inr c16), List.forall_mem_cons.2 ⟨.inr (.inr c18), List.forall_mem_cons.2 ⟨.inr (.inr c19), List.forall_mem_cons.2 ⟨.inr (.inl rfl), List.forall_mem_cons.2 ⟨.inl (by decide), List.forall_mem_cons.2 ⟨.inl (by decide), fun _ h => by cases h⟩⟩⟩⟩⟩⟩⟩⟩⟩) hI⟩
  · refine Reg.GStepAt.guarded (i := 30) rfl ?_
    intro x L ev w hI hk hp hA
    have e1 : ev (.tmp 1) = .int .u64 (n : Int) := (hA.oldNone 1 (by kernel_rfl)).trans g1
    have eg : ev (.tmp 70) = .bool true := hA.val 27 _ 70 rfl (hp ⟨27, .guard⟩ (by simp) rfl) rfl
    refine ⟨_, 70, rfl, rfl, eg, ?_⟩
    clear eg
    have hcc := hA.const
    clear hA hp
    refine Reg.out_value (v := .int .u64 (n : Int)) ?_ ⟨x, rfl, PPres.refl _ _ _, hI.same 30 (Reg.Keeps.refl _)⟩
    go_simp
  · refine Reg.GStepAt.guarded (i := 31) rfl ?_
    intro x L ev w hI hk hp hA
    have e72 : stR 5 (ev (.tmp 72)) x w := hA.val 29 _ 72 rfl (hp ⟨29, .data⟩ (by simp) rfl) rfl
    have e73 : ev (.tmp 73) = .int .u64 (n : Int) := hA.val 30 _ 73 rfl (hp ⟨30, .data⟩ (by simp) rfl) rfl
    have eg : ev (.tmp 70) = .bool true := hA.val 27 _ 70 rfl (hp ⟨27, .guard⟩ (by simp) rfl) rfl
    refine ⟨_, 70, rfl, rfl, eg, ?_⟩
    clear eg
    have c27 : L.getD 27 false = true := hp ⟨27, .guard⟩ (by simp) rfl
    have c26 : L.getD 26 false = true := hA.closed 27 _ rfl c27 ⟨26, .data⟩ (by simp) rfl
    have c14 : L.getD 14 false = true := hA.closed 26 _ rfl c26 ⟨14, .data⟩ (by simp) rfl
    have c9 : L.getD 9 false = true := hA.closed 14 _ rfl c14 ⟨9, .chain⟩ (by simp) rfl
    have c3 : L.getD 3 false = true := hA.closed 9 _ rfl c9 ⟨3, .chain⟩ (by simp) rfl
    have c1 : L.getD 1 false = true := hA.closed 3 _ rfl c3 ⟨1, .data⟩ (by simp) rfl
    have c13 : L.getD 13 false = true := hA.closed 14 _ rfl c14 ⟨13, .data⟩ (by simp) rfl
    have c4 : L.getD 4 false = true := hA.closed 13 _ rfl c13 ⟨4, .data⟩ (by simp) rfl
    have c23 : L.getD 23 false = true := hA.closed 27 _ rfl c27 ⟨23, .chain⟩ (by simp) rfl
    have c18 : L.getD 18 false = true := hA.closed 23 _ rfl c23 ⟨18, .chain⟩ (by simp) rfl
    have c16 : L.getD 16 false = true := hA.closed 18 _ rfl c18 ⟨16, .data⟩ (by simp) rfl
    have c25 : L.getD 25 false = true := hA.closed 26 _ rfl c26 ⟨25, .data⟩ (by simp) rfl
    have c19 : L.getD 19 false = true := hA.closed 25 _ rfl c25 ⟨19, .data⟩ (by simp) rfl
    have c29 : L.getD 29 false = true := hp ⟨29, .data⟩ (by simp) rfl
    have lt : x.1 < 6 := hI.link (31, 6) (by simp) (getD_false hk)
    have hcc := hA.const
    have hcf := hA.func
    clear hA hp
    have hx : x.1 = 5 := by have := e72.1; omega
    have hv := e72.2 hx
    have ho0 : Sl.Own w (ev (.tmp 72)) (Sl.cells t.data.toList) := by
      have := hI.own (by omega)
      rw [hx, hv] at this
      exact this
    have hb0 := hI.blk
    rw [hv] at hb0
    refine Reg.out_call (f := 27) (args := #[ev (.tmp 72), .int .u64 (n : Int)]) (w0 := w) ?_ ?_
    · clear e72 hv ho0 hb0
      go_simp
    refine (Hc5.out (ev (.tmp 72)) w ho0).mono ?_
    rintro e w' ⟨v', rfl, ho, hf, _⟩
    exact ⟨v', rfl, (6, v'), ⟨Nat.le_refl _, fun _ => rfl⟩, PPres.next lt, PI.next 31 6 v' (hI.bel.trans (hf.below hI.bel.size hb0)) (fun j hj => by rcases hf.lies j hj with h | h; exact hb0 j h; have := hI.bel.size; omega) (Hl5.out _ _ ho) hk (List.forall_mem_cons.2 ⟨.inr (.inr c1), List.forall_mem_cons.2 ⟨.inr (.inr c3), List.forall_mem_cons.2 ⟨.inr (.inr c4), List.forall_mem_cons.2 ⟨.inr (.inr c16), List.forall_mem_cons.2 ⟨.inr (.inr c18), List.forall_mem_cons.2 ⟨.inr (.inr c19), List.forall_mem_cons.2 ⟨.inr (.inr c29), List.forall_mem_cons.2 ⟨.inr (.inl rfl), List.forall_mem_cons.2 ⟨.inl (by decide), fun _ h => by cases h⟩⟩⟩⟩⟩⟩⟩⟩⟩) hI⟩
  · refine Reg.GStepAt.guarded (i := 32) rfl ?_
    intro x L ev w hI hk hp hA
    have e74 : stR 6 (ev (.tmp 74)) x w := hA.val 31 _ 74 rfl (hp ⟨31, .data⟩ (by simp) rfl) rfl
    have eg : ev (.tmp 70) = .bool true := hA.val 27 _ 70 rfl (hp ⟨27, .guard⟩ (by simp) rfl) rfl
    refine ⟨_, 70, rfl, rfl, eg, ?_⟩
    clear eg
    have hcc := hA.const
    clear hA hp
    have lt : x.1 < 7 := hI.link (32, 7) (by simp) (getD_false hk)
    have hx : x.1 = 6 := by have := e74.1; omega
    have hv := e74.2 hx
    have ho0 : Sl.Own w (ev (.tmp 74)) (Sl.cells l5) := by
      have := hI.own (by omega)
      rw [hx, hv] at this
      exact this
    have hst := HsX5.out w _ ho0
    clear e74 hv ho0
    refine Reg.out_value (v := .string X5) ?_ ⟨x, rfl, PPres.refl _ _ _, hI.same 32 (Reg.Keeps.refl _)⟩
    go_simp
  · refine Reg.GStepAt.guarded (i := 33) rfl ?_
    intro x L ev w hI hk hp hA
    have e5 : ev (.tmp 5) = .pointer (some ⟨bx, 0, none⟩) := (hA.oldNone 5 (by kernel_rfl)).trans g5
    have eg : ev (.tmp 70) = .bool true := hA.val 27 _ 70 rfl (hp ⟨27, .guard⟩ (by simp) rfl) rfl
    refine ⟨_, 70, rfl, rfl, eg, ?_⟩
    clear eg
    have hcc := hA.const
    clear hA hp
    have hcw := (hI.bel.cell (p := ⟨bx, 0, none⟩) hbx2).trans hcx2
    refine Reg.out_value (v := .string t) ?_ ⟨x, rfl, PPres.refl _ _ _, hI.same 33 (Reg.Keeps.refl _)⟩
    go_simp
  · refine Reg.GStepAt.guarded (i := 34) rfl ?_
    intro x L ev w hI hk hp hA
    have e1 : ev (.tmp 1) = .int .u64 (n : Int) := (hA.oldNone 1 (by kernel_rfl)).trans g1
    have eg : ev (.tmp 70) = .bool true := hA.val 27 _ 70 rfl (hp ⟨27, .guard⟩ (by simp) rfl) rfl
    refine ⟨_, 70, rfl, rfl, eg, ?_⟩
    clear eg
    have hcc := hA.const
    clear hA hp
    refine Reg.out_value (v := .int .u64 (n : Int)) ?_ ⟨x, rfl, PPres.refl _ _ _, hI.same 34 (Reg.Keeps.refl _)⟩
    go_simp
  · refine Reg.GStepAt.guarded (i := 35) rfl ?_
    intro x L ev w hI hk hp hA
    have e77 : ev (.tmp 77) = .int .u64 (n : Int) := hA.val 34 _ 77 rfl (hp ⟨34, .data⟩ (by simp) rfl) rfl
    have eg : ev (.tmp 70) = .bool true := hA.val 27 _ 70 rfl (hp ⟨27, .guard⟩ (by simp) rfl) rfl
    refine ⟨_, 70, rfl, rfl, eg, ?_⟩
    clear eg
    have hcc := hA.const
    have hcf := hA.func
    clear hA hp
    refine Reg.out_call (f := 26) (args := #[.int .u64 (n : Int), .int .i64 8]) (w0 := w) ?_ ?_
    · go_simp
    refine (Hr5.out w).mono ?_
    rintro e w' ⟨rfl, hkp⟩
    exact ⟨_, rfl, x, rfl, PPres.refl _ _ _, hI.same 35 hkp⟩
  · refine Reg.GStepAt.guarded (i := 36) rfl ?_
    intro x L ev w hI hk hp hA
    have e76 : ev (.tmp 76) = .string t := hA.val 33 _ 76 rfl (hp ⟨33, .data⟩ (by simp) rfl) rfl
    have e78 : ev (.tmp 78) = .string N5 := hA.val 35 _ 78 rfl (hp ⟨35, .data⟩ (by simp) rfl) rfl
    have eg : ev (.tmp 70) = .bool true := hA.val 27 _ 70 rfl (hp ⟨27, .guard⟩ (by simp) rfl) rfl
    refine ⟨_, 70, rfl, rfl, eg, ?_⟩
    clear eg
    have hcc := hA.const
    clear hA hp
    refine Reg.out_value (v := .string X5) ?_ ⟨x, rfl, PPres.refl _ _ _, hI.same 36 (Reg.Keeps.refl _)⟩
    go_simp
  · refine Reg.GStepAt.guarded (i := 37) rfl ?_
    intro x L ev w hI hk hp hA
    have e75 : ev (.tmp 75) = .string X5 := hA.val 32 _ 75 rfl (hp ⟨32, .data⟩ (by simp) rfl) rfl
    have e79 : ev (.tmp 79) = .string X5 := hA.val 36 _ 79 rfl (hp ⟨36, .data⟩ (by simp) rfl) rfl
    have eg : ev (.tmp 70) = .bool true := hA.val 27 _ 70 rfl (hp ⟨27, .guard⟩ (by simp) rfl) rfl
    refine ⟨_, 70, rfl, rfl, eg, ?_⟩
    clear eg
    have hcc := hA.const
    clear hA hp
    refine Reg.out_value (v := .bool true) ?_ ⟨x, rfl, PPres.refl _ _ _, hI.same 37 (Reg.Keeps.refl _)⟩
    go_simp
  · refine Reg.GStepAt.plain (i := 38) rfl ?_
    intro x L ev w hI hk hp hA
    have e70 : ev (.tmp 70) = .bool true := hA.val 27 _ 70 rfl (hp ⟨27, .data⟩ (by simp) rfl) rfl
    have e80 : ev (.tmp 80) = .bool true := hA.val 37 _ 80 rfl (hp ⟨37, .data⟩ (by simp) rfl) rfl
    have hcc := hA.const
    clear hA hp
    refine Reg.out_value (v := .bool true) ?_ ⟨x, rfl, PPres.refl _ _ _, hI.same 38 (Reg.Keeps.refl _)⟩
    go_simp
  · refine Reg.GStepAt.plain (i := 39) rfl ?_
    intro x L ev w hI hk hp hA
    have e81 : ev (.tmp 81) = .bool true := hA.val 38 _ 81 rfl (hp ⟨38, .data⟩ (by simp) rfl) rfl
    have hcc := hA.const
    clear hA hp
    refine Reg.out_value (v := .bool true) ?_ ⟨x, rfl, PPres.refl _ _ _, hI.same 39 (Reg.Keeps.refl _)⟩
    go_simp
  intro x2 L2 act2 w3 hall hI hF
  have h10 : act2.eval (.tmp 10) = .bool true := hF.val 39 _ 10 rfl (hall 39 (by simp)) rfl
  have hd2 : act2.defers = [] := hF.defers.trans hd
  clear hF hall
  go_wp2
  refine bodyPost_ret (results_tmp rfl act2.tmps Try.prog w3) hd2 ?_
  exact ⟨congrArg Ending.returned h10, HB2.out.trans (hI.bel.mono HB2.out.size)⟩
end Go.Proofs.Ytedhecbcpcmlmaa
