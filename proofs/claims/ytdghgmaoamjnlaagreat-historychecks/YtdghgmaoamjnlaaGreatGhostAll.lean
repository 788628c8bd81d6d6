/-
  Layer 13: who is busy: contract.
  Slices of items: copying.
  Layer 5: values, cells, memories: what they hold; copies: contracts.
  Layer 5: a memory: what it holds, and its calls: contracts.
  Layer 5: a memory is written: contracts.
  Layer 5: Force, Write: contracts.
  Layer 5: Write: contracts.
  Layer 6: draws: contract.
  An operation under way, as it lies in memory; what a step of a machine comes to.
  Layer 13: how a pick ends.
  A function that answers an Answer and a bool: its end.
  Layer 6: an operation that nobody disturbs, on any machine: contract.
  A region that draws its order, by a property of each operation's value: whatever order is drawn, each operation runs where those that it waits for have left values with their properties; at the end all properties hold.
  A region that draws its order, by a property of each operation's value AND A GHOST that the operations carry on: for values that an operation of the region makes and another of the region turns (a fresh slice that is appended to).
-/
import Derived.Test.YtdghgmaoamjnlaaGreatSlGAll
import Derived.Test.YtdghgmaoamjnlaaGreatWireAAll
import Derived.Test.YtdghgmaoamjnlaaGreatKNew9All
import Derived.Laws.ResultCell
import Derived.Orders
import Derived.WalkKit
import Derived.Deep.QuietTactic
namespace Go.Proofs.YtdghgmaoamjnlaaGreat
open Go.RowKit Go.Sort

/-- Who of the first ones is busy. -/
def busyTo (Q : Nat → Option Nat) (k : Nat) : List Nat := (List.range k).filter (fun t => (Q t).isSome)
theorem busyTo_some {Q : Nat → Option Nat} {k fb : Nat} (h : Q k = some fb) : busyTo Q (k + 1) = busyTo Q k ++ [k] := by
  unfold busyTo; rw [List.range_succ, List.filter_append]; simp [h]
theorem busyTo_none {Q : Nat → Option Nat} {k : Nat} (h : Q k = none) : busyTo Q (k + 1) = busyTo Q k := by
  unfold busyTo; rw [List.range_succ, List.filter_append]; simp [h]
theorem busyTo_le (Q : Nat → Option Nat) (k : Nat) : (busyTo Q k).length ≤ k := by
  unfold busyTo; refine Nat.le_trans (List.length_filter_le _ _) ?_; simp
theorem busyTo_mem {Q : Nat → Option Nat} {k t : Nat} : t ∈ busyTo Q k ↔ t < k ∧ ∃ fb, Q t = some fb := by
  unfold busyTo; rw [List.mem_filter, List.mem_range, Option.isSome_iff_exists]

/-- How Busy ends. -/
def BusyEnd (Q : Nat → Option Nat) (w : World) (e : Ending) (w' : World) : Prop :=
  ∃ a cap, e = .returned (.slice a (busyTo Q 6).length cap) ∧ SlAt 1 w' a cap (busyTo Q 6).length (vals (busyTo Q 6)) ∧ (∀ j, inB a j → w.heap.size ≤ j) ∧ Below w.heap.size w w'

set_option maxRecDepth 20000 in
set_option maxHeartbeats 4000000 in
theorem busy_any (eb : Nat) (kind param : Int) (T : TypeId) (mv : Value) (mb : Nat) (Q : Nat → Option Nat) (closed : Bool) (steps : Int) (w : World) (h : BoxAt w eb (ecells kind param T mv mb Q closed steps)) :
    Calls Tryz.prog 81 #[.pointer (some ⟨eb, 0, none⟩)] w (BusyEnd Q w) := by
  obtain ⟨g4, _⟩ := h.get 4 _ rfl
  obtain ⟨g5, _⟩ := h.get 5 _ rfl
  obtain ⟨g6, _⟩ := h.get 6 _ rfl
  obtain ⟨g7, _⟩ := h.get 7 _ rfl
  obtain ⟨g8, _⟩ := h.get 8 _ rfl
  obtain ⟨g9, _⟩ := h.get 9 _ rfl
  have hl := h.lt
  clear h
  have i0 : ∀ (p0 p1 p2 p3 p4 p5 : Option Addr) w, (Instr.index 135 (.agg #[.pointer p0, .pointer p1, .pointer p2, .pointer p3, .pointer p4, .pointer p5]) (.int .i64 0)).run Tryz.prog w = .ok (.pointer p0) w := fun _ _ _ _ _ _ _ => by kernel_rfl
  have i1 : ∀ (p0 p1 p2 p3 p4 p5 : Option Addr) w, (Instr.index 135 (.agg #[.pointer p0, .pointer p1, .pointer p2, .pointer p3, .pointer p4, .pointer p5]) (.int .i64 1)).run Tryz.prog w = .ok (.pointer p1) w := fun _ _ _ _ _ _ _ => by kernel_rfl
  have i2 : ∀ (p0 p1 p2 p3 p4 p5 : Option Addr) w, (Instr.index 135 (.agg #[.pointer p0, .pointer p1, .pointer p2, .pointer p3, .pointer p4, .pointer p5]) (.int .i64 2)).run Tryz.prog w = .ok (.pointer p2) w := fun _ _ _ _ _ _ _ => by kernel_rfl
  have i3 : ∀ (p0 p1 p2 p3 p4 p5 : Option Addr) w, (Instr.index 135 (.agg #[.pointer p0, .pointer p1, .pointer p2, .pointer p3, .pointer p4, .pointer p5]) (.int .i64 3)).run Tryz.prog w = .ok (.pointer p3) w := fun _ _ _ _ _ _ _ => by kernel_rfl
  have i4 : ∀ (p0 p1 p2 p3 p4 p5 : Option Addr) w, (Instr.index 135 (.agg #[.pointer p0, .pointer p1, .pointer p2, .pointer p3, .pointer p4, .pointer p5]) (.int .i64 4)).run Tryz.prog w = .ok (.pointer p4) w := fun _ _ _ _ _ _ _ => by kernel_rfl
  have i5 : ∀ (p0 p1 p2 p3 p4 p5 : Option Addr) w, (Instr.index 135 (.agg #[.pointer p0, .pointer p1, .pointer p2, .pointer p3, .pointer p4, .pointer p5]) (.int .i64 5)).run Tryz.prog w = .ok (.pointer p5) w := fun _ _ _ _ _ _ _ => by kernel_rfl
  go_enter Tryz.func81, Tryz.ntmps81
  go_wp2_with fail
  clear g4 g5 g6 g7 g8 g9
  go_loopw [3, 10] (fun s3 s10 wr => ∃ (k : Nat) (a : Option Addr) (cap : Nat), s3 = .slice a (busyTo Q k).length cap ∧ s10 = .int .i64 (k : Int) ∧ k ≤ 6 ∧ Hid (SlAt 1 wr a cap (busyTo Q k).length (vals (busyTo Q k)) ∧ (∀ j, inB a j → w.heap.size ≤ j) ∧ Below w.heap.size w wr)) (fun _ s10 _ => 6 - (intOf s10).toNat)
  case atStart => exact ⟨0, none, 0, rfl, rfl, by omega, SlAt.nil _ _, fun j hj => by (obtain ⟨x, hx, _⟩ := hj; cases hx), Below.refl _ _⟩
  case round =>
    obtain ⟨k, a, cap, rfl, rfl, hk, hR⟩ := hrel
    by_cases hk6 : k = 6
    · subst hk6
      have HE := hidq (show BusyEnd Q w (.returned (.slice a (busyTo Q 6).length cap)) wr from ⟨a, cap, rfl, hR.out.1, hR.out.2.1, hR.out.2.2⟩)
      clear hR
      generalize (busyTo Q 6).length = n at *
      go_wp2_with fail
      go_ret
      exact HE.out
    · have hFIN := hidq (fun (q : Option Nat) (hq : Q k = q) => hq)
      have hnone := hidq (fun (hq : Q k = none) => (show SlAt 1 wr a cap (busyTo Q (k + 1)).length (vals (busyTo Q (k + 1))) ∧ (∀ j, inB a j → w.heap.size ≤ j) ∧ Below w.heap.size w wr from by rw [busyTo_none hq]; exact hR.out))
      have hlen := busyTo_le Q k
      have hlenn := hidq (fun (hq : Q k = none) => (show (busyTo Q (k + 1)).length = (busyTo Q k).length from by rw [busyTo_none hq]))
      have hlens := hidq (fun fb (hq : Q k = some fb) => (show (busyTo Q (k + 1)).length = (busyTo Q k).length + 1 from by rw [busyTo_some hq]; simp))
      have hsome := hidq (fun fb (hq : Q k = some fb) g2 c2 w2 (hF2 : Flat 1 w2 g2 c2 ((busyTo Q k).length + 1) (vals (busyTo Q k) ++ [.int .i64 (k : Int)])) (hb2 : But (inB a) (wr.alloc (.cells #[.int .i64 (k : Int)] 3)) w2) (hg2 : inB a g2 ∨ (wr.alloc (.cells #[.int .i64 (k : Int)] 3)).heap.size ≤ g2) => (show SlAt 1 w2 (some ⟨g2, 0, none⟩) c2 (busyTo Q (k + 1)).length (vals (busyTo Q (k + 1))) ∧ (∀ j, inB (some ⟨g2, 0, none⟩) j → w.heap.size ≤ j) ∧ Below w.heap.size w w2 from by
        obtain ⟨h1, h2, h3⟩ := hR.out
        refine ⟨.inr ⟨g2, rfl, ?_⟩, ?_, ?_⟩
        · rw [busyTo_some hq, List.length_append, show vals (busyTo Q k ++ [k]) = vals (busyTo Q k) ++ [.int .i64 (k : Int)] by simp [vals]]; exact hF2
        · rintro j ⟨x, hx, rfl⟩
          cases hx
          rcases hg2 with e | e
          · exact h2 _ e
          · have := h3.size; simp at e; show w.heap.size ≤ g2; omega
        · exact (h3.alloc h3.size _).trans (hb2.below (by simp; have := h3.size; omega) (fun j e => h2 j e))))
      generalize hln : (busyTo Q k).length = len at *
      generalize vals (busyTo Q k) = lst at *
      generalize hln1 : (busyTo Q (k + 1)).length = len1 at *
      generalize hlst1 : vals (busyTo Q (k + 1)) = lst1 at *
      have HL := hidq (And.intro hln1 hlst1)
      obtain ⟨q, hq⟩ : ∃ q, Q k = q := ⟨_, rfl⟩
      have HSL := hidq hR.out.1
      have hl100 : len ≤ 100 := by omega
      have hc : k = 0 ∨ k = 1 ∨ k = 2 ∨ k = 3 ∨ k = 4 ∨ k = 5 := by omega
      clear hk hk6 hFIN hlen
      cases q with
      | none =>
        have h1 := hlenn.out hq
        have h2 := hidq (hnone.out hq)
        subst h1
        clear hnone hlenn hlens hsome hR HSL hln1 hlst1
        rcases hc with rfl | rfl | rfl | rfl | rfl | rfl
        · go_wp2_with fail
          go_roundw
          case rel => exact ⟨0 + 1, a, cap, by rw [HL.out.1], by go_num, by omega, by rw [HL.out.1, HL.out.2]; exact h2⟩
          case measure => simp [intOf]
        · go_wp2_with fail
          go_roundw
          case rel => exact ⟨1 + 1, a, cap, by rw [HL.out.1], by go_num, by omega, by rw [HL.out.1, HL.out.2]; exact h2⟩
          case measure => simp [intOf]
        · go_wp2_with fail
          go_roundw
          case rel => exact ⟨2 + 1, a, cap, by rw [HL.out.1], by go_num, by omega, by rw [HL.out.1, HL.out.2]; exact h2⟩
          case measure => simp [intOf]
        · go_wp2_with fail
          go_roundw
          case rel => exact ⟨3 + 1, a, cap, by rw [HL.out.1], by go_num, by omega, by rw [HL.out.1, HL.out.2]; exact h2⟩
          case measure => simp [intOf]
        · go_wp2_with fail
          go_roundw
          case rel => exact ⟨4 + 1, a, cap, by rw [HL.out.1], by go_num, by omega, by rw [HL.out.1, HL.out.2]; exact h2⟩
          case measure => simp [intOf]
        · go_wp2_with fail
          go_roundw
          case rel => exact ⟨5 + 1, a, cap, by rw [HL.out.1], by go_num, by omega, by rw [HL.out.1, HL.out.2]; exact h2⟩
          case measure => simp [intOf]
      | some fb =>
        have h1 := hlens.out fb hq
        have h2 := hidq (hsome.out fb hq)
        subst h1
        clear hnone hlenn hlens hsome hln1 hlst1
        rcases hc with rfl | rfl | rfl | rfl | rfl | rfl
        · go_wp2_with (at_builtin; refine wpList_sl plainN _ rfl (.tmp 16) (.tmp 18) rfl a cap len _ rfl (HSL.out.below ((Below.refl _ _).alloc (Nat.le_refl _) _)) _ rfl 1 [.int .i64 0] (src_new 1 _ Tryz.underlying90 wr.heap.size [.int .i64 0] rfl (fun j u hu => by rw [World.cell?_alloc_new]; simpa using hu) (by intro u hu; simp at hu; subst hu; rfl)) (by omega) (by omega) ?_; intro g2 c2 w2 hF2 hb2 hg2)
          rw [show eptr (some fb) = eptr (Q 0) from by rw [hq]]
          go_roundw
          case rel => exact ⟨0 + 1, some ⟨g2, 0, none⟩, c2, by rw [HL.out.1], by go_num, by omega, by rw [HL.out.1, HL.out.2]; exact h2.out g2 c2 w2 hF2 hb2 hg2⟩
          case measure => simp [intOf]
        · go_wp2_with (at_builtin; refine wpList_sl plainN _ rfl (.tmp 16) (.tmp 18) rfl a cap len _ rfl (HSL.out.below ((Below.refl _ _).alloc (Nat.le_refl _) _)) _ rfl 1 [.int .i64 1] (src_new 1 _ Tryz.underlying90 wr.heap.size [.int .i64 1] rfl (fun j u hu => by rw [World.cell?_alloc_new]; simpa using hu) (by intro u hu; simp at hu; subst hu; rfl)) (by omega) (by omega) ?_; intro g2 c2 w2 hF2 hb2 hg2)
          rw [show eptr (some fb) = eptr (Q 1) from by rw [hq]]
          go_roundw
          case rel => exact ⟨1 + 1, some ⟨g2, 0, none⟩, c2, by rw [HL.out.1], by go_num, by omega, by rw [HL.out.1, HL.out.2]; exact h2.out g2 c2 w2 hF2 hb2 hg2⟩
          case measure => simp [intOf]
        · go_wp2_with (at_builtin; refine wpList_sl plainN _ rfl (.tmp 16) (.tmp 18) rfl a cap len _ rfl (HSL.out.below ((Below.refl _ _).alloc (Nat.le_refl _) _)) _ rfl 1 [.int .i64 2] (src_new 1 _ Tryz.underlying90 wr.heap.size [.int .i64 2] rfl (fun j u hu => by rw [World.cell?_alloc_new]; simpa using hu) (by intro u hu; simp at hu; subst hu; rfl)) (by omega) (by omega) ?_; intro g2 c2 w2 hF2 hb2 hg2)
          rw [show eptr (some fb) = eptr (Q 2) from by rw [hq]]
          go_roundw
          case rel => exact ⟨2 + 1, some ⟨g2, 0, none⟩, c2, by rw [HL.out.1], by go_num, by omega, by rw [HL.out.1, HL.out.2]; exact h2.out g2 c2 w2 hF2 hb2 hg2⟩
          case measure => simp [intOf]
        · go_wp2_with (at_builtin; refine wpList_sl plainN _ rfl (.tmp 16) (.tmp 18) rfl a cap len _ rfl (HSL.out.below ((Below.refl _ _).alloc (Nat.le_refl _) _)) _ rfl 1 [.int .i64 3] (src_new 1 _ Tryz.underlying90 wr.heap.size [.int .i64 3] rfl (fun j u hu => by rw [World.cell?_alloc_new]; simpa using hu) (by intro u hu; simp at hu; subst hu; rfl)) (by omega) (by omega) ?_; intro g2 c2 w2 hF2 hb2 hg2)
          rw [show eptr (some fb) = eptr (Q 3) from by rw [hq]]
          go_roundw
          case rel => exact ⟨3 + 1, some ⟨g2, 0, none⟩, c2, by rw [HL.out.1], by go_num, by omega, by rw [HL.out.1, HL.out.2]; exact h2.out g2 c2 w2 hF2 hb2 hg2⟩
          case measure => simp [intOf]
        · go_wp2_with (at_builtin; refine wpList_sl plainN _ rfl (.tmp 16) (.tmp 18) rfl a cap len _ rfl (HSL.out.below ((Below.refl _ _).alloc (Nat.le_refl _) _)) _ rfl 1 [.int .i64 4] (src_new 1 _ Tryz.underlying90 wr.heap.size [.int .i64 4] rfl (fun j u hu => by rw [World.cell?_alloc_new]; simpa using hu) (by intro u hu; simp at hu; subst hu; rfl)) (by omega) (by omega) ?_; intro g2 c2 w2 hF2 hb2 hg2)
          rw [show eptr (some fb) = eptr (Q 4) from by rw [hq]]
          go_roundw
          case rel => exact ⟨4 + 1, some ⟨g2, 0, none⟩, c2, by rw [HL.out.1], by go_num, by omega, by rw [HL.out.1, HL.out.2]; exact h2.out g2 c2 w2 hF2 hb2 hg2⟩
          case measure => simp [intOf]
        · go_wp2_with (at_builtin; refine wpList_sl plainN _ rfl (.tmp 16) (.tmp 18) rfl a cap len _ rfl (HSL.out.below ((Below.refl _ _).alloc (Nat.le_refl _) _)) _ rfl 1 [.int .i64 5] (src_new 1 _ Tryz.underlying90 wr.heap.size [.int .i64 5] rfl (fun j u hu => by rw [World.cell?_alloc_new]; simpa using hu) (by intro u hu; simp at hu; subst hu; rfl)) (by omega) (by omega) ?_; intro g2 c2 w2 hF2 hb2 hg2)
          rw [show eptr (some fb) = eptr (Q 5) from by rw [hq]]
          go_roundw
          case rel => exact ⟨5 + 1, some ⟨g2, 0, none⟩, c2, by rw [HL.out.1], by go_num, by omega, by rw [HL.out.1, HL.out.2]; exact h2.out g2 c2 w2 hF2 hb2 hg2⟩
          case measure => simp [intOf]
end Go.Proofs.YtdghgmaoamjnlaaGreat

namespace Go.Proofs.YtdghgmaoamjnlaaGreat
open Go.RowKit Go.Sort

/-! Items: their bits and values. -/
abbrev It := Nat × Int
def encI (x : It) : List Value := [.float .f64 x.1, .int .i64 x.2]
def flatI (L : List It) : List Value := L.flatMap encI
theorem flatI_length (L : List It) : (flatI L).length = L.length * 2 := by
  induction L with
  | nil => rfl
  | cons x L ih => simp only [flatI, List.flatMap_cons, List.length_append, List.length_cons] at *; rw [ih]; simp [encI]; omega
theorem flatI_append (L M : List It) : flatI (L ++ M) = flatI L ++ flatI M := by simp [flatI]
theorem flatI_get : ∀ (L : List It) (i : Nat) (h : i < L.length), (flatI L)[i * 2]? = some (.float .f64 L[i].1) ∧ (flatI L)[i * 2 + 1]? = some (.int .i64 L[i].2)
  | x :: L, 0, h => ⟨rfl, rfl⟩
  | x :: L, i + 1, h => by
    have := flatI_get L i (by simpa using h)
    simp only [List.getElem_cons_succ]
    have e : flatI (x :: L) = .float .f64 x.1 :: .int .i64 x.2 :: flatI L := rfl
    rw [e, show (i + 1) * 2 = i * 2 + 1 + 1 by omega]
    exact this
theorem flatI_one (L : List It) : ∀ u ∈ flatI L, u.oneCell' = true := by
  intro u hu
  simp only [flatI, List.mem_flatMap, encI] at hu
  obtain ⟨x, _, hx⟩ := hu
  simp at hx
  rcases hx with rfl | rfl <;> rfl
theorem plainI : PlainK Tryz.prog 2 30 53 := by
  have h : (Tryz.prog.info? 53).map (fun i => (i.zero, i.size, i.bytes)) = some (some (.agg #[.float .f64 0, .int .i64 0]), 2, 16) := by kernel_rfl
  obtain ⟨i, hi, he⟩ := Option.map_eq_some_iff.1 h
  simp only [Prod.mk.injEq] at he
  exact ⟨i, _, Tryz.underlying30, hi, he.1, he.2.1, rfl, by rw [he.2.2]; decide⟩

/-- slices.Clone of items. -/
theorem sclone_any (a : Option Addr) (cap n : Nat) (l : List Value) (w : World) (h : SlAt 2 w a cap n l) (hn : n ≤ 1000000) :
    Calls Tryz.prog 58 #[.slice a n cap] w fun e w' => ∃ a' cap', e = .returned (.slice a' n cap') ∧ SlAt 2 w' a' cap' n l ∧ (∀ j, inB a' j → w.heap.size ≤ j) ∧ Below w.heap.size w w' := by
  have hq := fun w a n c => Lib.run_eql_slice_nil (P := Tryz.prog) w 30 53 a n c 0 0 Tryz.underlying30
  rcases h with ⟨rfl, rfl, rfl, rfl⟩ | ⟨g, rfl, hf⟩
  · go_enter Tryz.func58, Tryz.ntmps58
    go_wp2
    go_ret
    exact ⟨none, 0, rfl, SlAt.nil _ _, (fun j e => by obtain ⟨x, hx, _⟩ := e; cases hx), Below.refl _ _⟩
  · have hF := hidq hf
    have hlt := hf.lt
    go_enter Tryz.func58, Tryz.ntmps58
    clear hf
    go_wp2_with (at_builtin; refine wpList_flat plainI _ rfl (.tmp 5) (.tmp 6) rfl w.heap.size 0 0 [] rfl (Flat.new w [] 53 2 0 rfl (Nat.zero_le _) (fun _ h => (by cases h))) _ rfl n l ((hF.out.but (S := fun _ => False) ((But.refl _ _).alloc _) id).src Tryz.underlying30) (by omega) ?_; intro g2 cap2 w2 hF2 hb2 hg2)
    go_ret
    first | rw [Nat.zero_add, List.nil_append] at hF2 | rw [List.nil_append] at hF2 | skip
    refine ⟨some ⟨g2, 0, none⟩, cap2, rfl, .inr ⟨g2, rfl, hF2⟩, ?_, ?_⟩
    · rintro j ⟨x, hx, rfl⟩
      cases hx
      simp at hg2
      show w.heap.size ≤ g2
      omega
    · exact (((But.refl (fun k => k = w.heap.size) w).alloc _).trans hb2).below (Nat.le_refl _) (fun k e => by omega)
end Go.Proofs.YtdghgmaoamjnlaaGreat

namespace Go.Proofs.YtdghgmaoamjnlaaGreat
open Go.RowKit Go.Sort

/-- A value in a box. -/
abbrev boxV (n : Int) (s : Value) : Obj := .cells #[.int .i64 n, s] 97

theorem vclone_any (x : Int) (a : Option Addr) (cap n : Nat) (l : List Value) (w : World) (h : SlAt 2 w a cap n l) (hn : n ≤ 1000000) :
    Calls Tryz.prog 78 #[.agg #[.int .i64 x, .slice a n cap]] w fun e w' => ∃ a' cap', e = .returned (.agg #[.int .i64 x, .slice a' n cap']) ∧ SlAt 2 w' a' cap' n l ∧ (∀ j, inB a' j → w.heap.size ≤ j) ∧ Below w.heap.size w w' := by
  have hC := hidq (sclone_any a cap n l ((w.alloc (boxV x (.slice a n cap))).alloc (boxV 0 (.slice none 0 0))) (h.but (S := fun _ => False) (((But.refl _ _).alloc _).alloc _) (fun _ _ e => e)) hn)
  clear h
  go_enter Tryz.func78, Tryz.ntmps78
  go_wp2_with fail
  refine hC.out.mono ?_
  rintro e w1 ⟨a', cap', rfl, hS, hf, hb⟩
  have HS := hidq hS
  have HF := hidq hf
  clear hS hf
  have hz : w.heap.size + 1 < w1.heap.size := by have := hb.size; simp at this; omega
  have c0 : w1.cell? ⟨w.heap.size, 0, none⟩ = some (.int .i64 x) := by rw [hb.cell (p := ⟨w.heap.size, 0, none⟩) (by simp; omega)]; simp
  have c1 : w1.cell? ⟨w.heap.size, 1, none⟩ = some (.slice a n cap) := by rw [hb.cell (p := ⟨w.heap.size, 1, none⟩) (by simp; omega)]; simp
  have d0 : w1.cell? ⟨w.heap.size + 1, 0, none⟩ = some (.int .i64 0) := by rw [hb.cell (p := ⟨w.heap.size + 1, 0, none⟩) (by simp)]; simp
  have d1 : w1.cell? ⟨w.heap.size + 1, 1, none⟩ = some (.slice none 0 0) := by rw [hb.cell (p := ⟨w.heap.size + 1, 1, none⟩) (by simp)]; simp
  have z1 : w1.frozen? ⟨w.heap.size, 1, none⟩ = false := by rw [hb.frozen (p := ⟨w.heap.size, 1, none⟩) (by simp; omega)]; simp
  have y0 : w1.frozen? ⟨w.heap.size + 1, 0, none⟩ = false := by rw [hb.frozen (p := ⟨w.heap.size + 1, 0, none⟩) (by simp)]; simp
  have y1 : w1.frozen? ⟨w.heap.size + 1, 1, none⟩ = false := by rw [hb.frozen (p := ⟨w.heap.size + 1, 1, none⟩) (by simp)]; simp
  have hb0 : Below w.heap.size w w1 := (((Below.refl _ _).alloc (Nat.le_refl _) _).alloc (by simp) _).trans (hb.mono (by simp; omega))
  have hfin : ∀ w2, But (fun k => k = w.heap.size ∨ k = w.heap.size + 1) w1 w2 → SlAt 2 w2 a' cap' n l ∧ (∀ j, inB a' j → w.heap.size ≤ j) ∧ Below w.heap.size w w2 := fun w2 h2 =>
    ⟨HS.out.but h2 (fun j hj e => by have := HF.out j hj; simp at this; omega), fun j hj => by have := HF.out j hj; simp at this; omega, hb0.trans (h2.below hb0.size (fun k e => by omega))⟩
  have HFIN := hidq hfin
  clear hb hb0 hfin
  go_wp2
  refine bodyPost_ret (v := .agg #[.int .i64 x, .slice a' n cap']) (by simp [results, Tryz.results78, go_sem, d0, d1]) rfl ⟨a', cap', rfl, HFIN.out _ ?_⟩
  exact (((But.refl _ _).set1 _ _ (.inl rfl) _).set1 _ _ (.inr rfl) _).set1 _ _ (.inr rfl) _

abbrev boxC (v x : Int) (s : Value) : Obj := .cells #[.int .u64 v, .int .i64 x, s] 107
set_option maxHeartbeats 1000000 in
theorem copied_any (v x : Int) (a : Option Addr) (cap n : Nat) (l : List Value) (w : World) (h : SlAt 2 w a cap n l) (hn : n ≤ 1000000) :
    Calls Tryz.prog 85 #[.agg #[.int .u64 v, .int .i64 x, .slice a n cap]] w fun e w' => ∃ a' cap', e = .returned (.agg #[.int .u64 v, .int .i64 x, .slice a' n cap']) ∧ SlAt 2 w' a' cap' n l ∧ (∀ j, inB a' j → w.heap.size ≤ j) ∧ Below w.heap.size w w' := by
  have hC := hidq (fun W (hW : But (fun _ => False) w W) => vclone_any x a cap n l W (h.but hW (fun _ _ e => e)) hn)
  have hfin : ∀ a' cap' w1 w2, SlAt 2 w1 a' cap' n l → (∀ j, inB a' j → w.heap.size + 2 ≤ j) → Below (w.heap.size + 2) ((w.alloc (boxC v x (.slice a n cap))).alloc (boxC 0 0 (.slice none 0 0))) w1 → But (fun k => k = w.heap.size ∨ k = w.heap.size + 1) w1 w2 → SlAt 2 w2 a' cap' n l ∧ (∀ j, inB a' j → w.heap.size ≤ j) ∧ Below w.heap.size w w2 := fun a' cap' w1 w2 hS hF hb h2 => by
    have hb0 : Below w.heap.size w w1 := (((Below.refl _ _).alloc (Nat.le_refl _) _).alloc (by simp) _).trans (hb.mono (by omega))
    exact ⟨hS.but h2 (fun j hj e => by have := hF j hj; omega), fun j hj => by have := hF j hj; omega, hb0.trans (h2.below hb0.size (fun k e => by omega))⟩
  have hcells : ∀ w1, Below (w.heap.size + 2) ((w.alloc (boxC v x (.slice a n cap))).alloc (boxC 0 0 (.slice none 0 0))) w1 →
      (w.heap.size + 1 < w1.heap.size ∧ w1.cell? ⟨w.heap.size, 0, none⟩ = some (.int .u64 v)) ∧ (w1.cell? ⟨w.heap.size + 1, 0, none⟩ = some (.int .u64 0) ∧ w1.cell? ⟨w.heap.size + 1, 1, none⟩ = some (.int .i64 0) ∧ w1.cell? ⟨w.heap.size + 1, 2, none⟩ = some (.slice none 0 0)) ∧
      w1.frozen? ⟨w.heap.size + 1, 0, none⟩ = false ∧ w1.frozen? ⟨w.heap.size + 1, 1, none⟩ = false ∧ w1.frozen? ⟨w.heap.size + 1, 2, none⟩ = false := fun w1 hb => by
    refine ⟨⟨by have := hb.size; simp at this; omega, ?_⟩, ⟨?_, ?_, ?_⟩, ?_, ?_, ?_⟩
    · rw [hb.cell (p := ⟨w.heap.size, 0, none⟩) (by simp)]; simp
    · rw [hb.cell (p := ⟨w.heap.size + 1, 0, none⟩) (by simp)]; simp
    · rw [hb.cell (p := ⟨w.heap.size + 1, 1, none⟩) (by simp)]; simp
    · rw [hb.cell (p := ⟨w.heap.size + 1, 2, none⟩) (by simp)]; simp
    · rw [hb.frozen (p := ⟨w.heap.size + 1, 0, none⟩) (by simp)]; simp
    · rw [hb.frozen (p := ⟨w.heap.size + 1, 1, none⟩) (by simp)]; simp
    · rw [hb.frozen (p := ⟨w.heap.size + 1, 2, none⟩) (by simp)]; simp
  have HFIN := hidq hfin
  have HCEL := hidq hcells
  have hsz : ((w.alloc (boxC v x (.slice a n cap))).alloc (boxC 0 0 (.slice none 0 0))).drew.heap.size = w.heap.size + 2 := by simp
  have HSZ := hidq hsz
  clear h hfin hcells hsz
  go_enter Tryz.func85, Tryz.ntmps85
  go_wp2
  go_region_with (go_at_call 78; refine (hC.out _ (((But.refl _ w).alloc _).alloc _).drew).mono ?_; rintro e w1 ⟨a', cap', rfl, hS, hf, hb⟩; have HS := hidq hS; rw [HSZ.out] at hf hb; have HF := hidq hf; have HB := hidq hb; obtain ⟨⟨hz, c0⟩, ⟨d0, d1, d2⟩, z0, z1, z2⟩ := HCEL.out w1 (by exact ⟨hb.os, hb.tape, hb.output, hb.size, hb.block⟩); clear hS hf hb)
  all_goals go_wp2
  all_goals refine bodyPost_ret (v := .agg #[.int .u64 v, .int .i64 x, .slice a' n cap']) (by simp [results, Tryz.results85, go_sem, d0, d1, d2]) rfl ⟨a', cap', rfl, HFIN.out _ _ w1 _ HS.out HF.out ?_ ?_⟩
  all_goals first
    | exact ⟨HB.out.os, HB.out.tape, HB.out.output, HB.out.size, HB.out.block⟩
    | exact (((But.refl _ _).set1 _ _ (.inr rfl) _).set1 _ _ (.inr rfl) _).set1 _ _ (.inr rfl) _
end Go.Proofs.YtdghgmaoamjnlaaGreat

namespace Go.Proofs.YtdghgmaoamjnlaaGreat
open Go.RowKit Go.Sort

/-- A cell: its version, its number, its items. -/
structure CV where
  ver : Int
  n : Int
  L : List It
def CV.zero : CV := ⟨0, 0, []⟩
/-- A memory: how many cells, each of them, how many writes. -/
structure Mem where
  len : Nat
  cell : Nat → CV
  clock : Nat
def Mem.empty : Mem := ⟨0, fun _ => CV.zero, 0⟩
def Mem.reach (M : Mem) (n : Nat) : Mem := { M with len := max M.len n }
def Mem.put (M : Mem) (i : Nat) (n : Int) (L : List It) : Mem := ⟨max M.len (i + 1), fun j => if j = i then ⟨((M.clock + 1 : Nat) : Int), n, L⟩ else M.cell j, M.clock + 1⟩

def cellC (M : Mem) (A : Nat → Option Addr) (C : Nat → Nat) (t : Nat) : Value :=
  if t % 3 = 0 then .int .u64 (M.cell (t / 3)).ver else if t % 3 = 1 then .int .i64 (M.cell (t / 3)).n else .slice (A (t / 3)) (M.cell (t / 3)).L.length (C (t / 3))
def flatC (M : Mem) (A : Nat → Option Addr) (C : Nat → Nat) : List Value := (List.range (M.len * 3)).map (cellC M A C)
theorem flatC_length (M : Mem) (A : Nat → Option Addr) (C : Nat → Nat) : (flatC M A C).length = M.len * 3 := by simp [flatC]
theorem flatC_get (M : Mem) (A : Nat → Option Addr) (C : Nat → Nat) (t : Nat) (h : t < M.len * 3) : (flatC M A C)[t]? = some (cellC M A C t) := by simp [flatC, h]
theorem flatC_0 (M : Mem) (A : Nat → Option Addr) (C : Nat → Nat) (i : Nat) (h : i < M.len) : (flatC M A C)[i * 3]? = some (.int .u64 (M.cell i).ver) := by
  rw [flatC_get M A C _ (by omega)]; unfold cellC; rw [if_pos (by omega), show i * 3 / 3 = i by omega]
theorem flatC_1 (M : Mem) (A : Nat → Option Addr) (C : Nat → Nat) (i : Nat) (h : i < M.len) : (flatC M A C)[i * 3 + 1]? = some (.int .i64 (M.cell i).n) := by
  rw [flatC_get M A C _ (by omega)]; unfold cellC; rw [if_neg (by omega), if_pos (by omega), show (i * 3 + 1) / 3 = i by omega]
theorem flatC_2 (M : Mem) (A : Nat → Option Addr) (C : Nat → Nat) (i : Nat) (h : i < M.len) : (flatC M A C)[i * 3 + 2]? = some (.slice (A i) (M.cell i).L.length (C i)) := by
  rw [flatC_get M A C _ (by omega)]; unfold cellC; rw [if_neg (by omega), if_neg (by omega), show (i * 3 + 2) / 3 = i by omega]

/-- The row of a memory's cells, and their items. -/
structure RowC (w : World) (b : Nat) (O : Nat → Prop) (M : Mem) (a : Option Addr) (cap : Nat) (A : Nat → Option Addr) (C : Nat → Nat) : Prop where
  hd : w.cell? ⟨b, 0, none⟩ = some (.slice a M.len cap)
  sl : SlAt 3 w a cap M.len (flatC M A C)
  own : ∀ j, inB a j → O j ∧ j ≠ b
  its : ∀ i, i < M.len → SlAt 2 w (A i) (C i) (M.cell i).L.length (flatI (M.cell i).L)
  ito : ∀ i, i < M.len → ∀ j, inB (A i) j → O j ∧ j ≠ b ∧ ¬ inB a j
structure MemAt (w : World) (b : Nat) (O : Nat → Prop) (M : Mem) : Prop where
  ob : O b
  lt : ∀ k, O k → k < w.heap.size
  row : ∃ a cap A C, RowC w b O M a cap A C
  clk : w.cell? ⟨b, 1, none⟩ = some (.int .u64 (M.clock : Int))
  fz0 : w.frozen? ⟨b, 0, none⟩ = false
  fz1 : w.frozen? ⟨b, 1, none⟩ = false
  max : M.len ≤ 1000
  rest : ∀ i, M.len ≤ i → M.cell i = CV.zero
  few : ∀ i, (M.cell i).L.length ≤ 1000000

section
variable {w w' : World} {b : Nat} {O S : Nat → Prop} {M : Mem}
theorem RowC.but {a : Option Addr} {cap : Nat} {A : Nat → Option Addr} {C : Nat → Nat} (h : RowC w b O M a cap A C) (hl : b < w.heap.size) (hb : But S w w') (hS : ∀ k, O k → ¬ S k) (hO : O b) : RowC w' b O M a cap A C :=
  ⟨by rw [hb.cell (p := ⟨b, 0, none⟩) hl (hS b hO)]; exact h.hd, h.sl.but hb (fun j hj => hS j (h.own j hj).1), h.own, fun i hi => (h.its i hi).but hb (fun j hj => hS j (h.ito i hi j hj).1), h.ito⟩
theorem MemAt.but (h : MemAt w b O M) (hb : But S w w') (hS : ∀ k, O k → ¬ S k) : MemAt w' b O M := by
  have hl := h.lt b h.ob
  obtain ⟨a, cap, A, C, hr⟩ := h.row
  exact ⟨h.ob, fun k hk => Nat.lt_of_lt_of_le (h.lt k hk) hb.size, ⟨a, cap, A, C, hr.but hl hb hS h.ob⟩, by rw [hb.cell (p := ⟨b, 1, none⟩) hl (hS b h.ob)]; exact h.clk,
    by rw [hb.frozen (p := ⟨b, 0, none⟩) hl (hS b h.ob)]; exact h.fz0, by rw [hb.frozen (p := ⟨b, 1, none⟩) hl (hS b h.ob)]; exact h.fz1, h.max, h.rest, h.few⟩
theorem MemAt.below (h : MemAt w b O M) (hb : Below w.heap.size w w') : MemAt w' b O M := h.but (S := fun _ => False) (But.of_below hb) (fun _ _ e => e)
end

/-- What is owned, with what has come since. -/
def own' (O : Nat → Prop) (w w' : World) (k : Nat) : Prop := O k ∨ (w.heap.size ≤ k ∧ k < w'.heap.size)

theorem new5_any (w : World) : Calls Tryz.prog 30 #[] w fun e w' => e = .returned (.pointer (some ⟨w.heap.size, 0, none⟩)) ∧ MemAt w' w.heap.size (fun k => k = w.heap.size) Mem.empty ∧ Below w.heap.size w w' := by
  go_enter Tryz.func30, Tryz.ntmps30
  go_wp2
  go_ret
  refine ⟨rfl, ⟨rfl, fun k hk => by rw [hk]; simp, ⟨none, 0, fun _ => none, fun _ => 0, ?_⟩, ?_, ?_, ?_, Nat.zero_le _, fun _ _ => rfl, fun _ => Nat.zero_le _⟩, (Below.refl _ _).alloc (Nat.le_refl _) _⟩
  · refine ⟨by rw [World.cell?_alloc_new]; rfl, SlAt.nil _ _, (fun j hj => by obtain ⟨x, hx, _⟩ := hj; cases hx), fun i hi => absurd hi (Nat.not_lt_zero _), fun i hi => absurd hi (Nat.not_lt_zero _)⟩
  · rw [World.cell?_alloc_new]; rfl
  · exact World.frozen?_alloc_new w _ _ _
  · exact World.frozen?_alloc_new w _ _ _
/-- The cell of a number, or a zero one. -/
def Mem.look (M : Mem) (i : Int) : CV := if i < 0 then CV.zero else M.cell i.toNat
theorem look_neg {M : Mem} {i : Int} (h : i < 0) : M.look i = CV.zero := if_pos h
theorem look_nat {M : Mem} (i : Nat) : M.look (i : Int) = M.cell i := by unfold Mem.look; rw [if_neg (by omega)]; rfl

theorem version_any (b : Nat) (O : Nat → Prop) (M : Mem) (i : Int) (w : World) (h : MemAt w b O M) :
    Calls Tryz.prog 212 #[.pointer (some ⟨b, 0, none⟩), .int .i64 i] w fun e w' => e = .returned (.int .u64 (M.look i).ver) ∧ w' = w := by
  obtain ⟨a, cap, A, C, hr⟩ := h.row
  have hd := hr.hd
  have hmax := h.max
  by_cases h0 : i < 0
  · rw [look_neg h0]
    clear hr h
    go_enter Tryz.func212, Tryz.ntmps212
    go_wp2
    go_ret
    exact ⟨rfl, rfl⟩
  · have h0' : decide (i < 0) = false := decide_eq_false h0
    obtain ⟨k, rfl⟩ : ∃ k : Nat, i = (k : Int) := ⟨i.toNat, by omega⟩
    rw [look_nat]
    by_cases h1 : M.len ≤ k
    · rw [h.rest k h1]
      have h1i : (M.len : Int) ≤ (k : Int) := by omega
      clear hr h
      generalize M.len = n at *
      go_enter Tryz.func212, Tryz.ntmps212
      go_wp2
      go_ret
      exact ⟨rfl, rfl⟩
    · have h1' : decide ((M.len : Int) ≤ (k : Int)) = false := decide_eq_false (by omega)
      have h1i : (k : Int) < (M.len : Int) := by omega
      obtain ⟨g, rfl, hg, hc⟩ := hr.sl.cell (flatC_0 M A C k (by omega))
      have hle := hr.sl.le
      generalize (M.cell k).ver = v at *
      clear hr h
      generalize M.len = n at *
      go_enter Tryz.func212, Tryz.ntmps212
      go_wp2
      go_ret
      exact ⟨rfl, rfl⟩

theorem read5_any (b : Nat) (O : Nat → Prop) (M : Mem) (i : Int) (w : World) (h : MemAt w b O M) :
    Calls Tryz.prog 38 #[.pointer (some ⟨b, 0, none⟩), .int .i64 i] w fun e w' => ∃ a' cap', e = .returned (.agg #[.int .u64 (M.look i).ver, .int .i64 (M.look i).n, .slice a' (M.look i).L.length cap']) ∧
      SlAt 2 w' a' cap' (M.look i).L.length (flatI (M.look i).L) ∧ (∀ j, inB a' j → w.heap.size ≤ j) ∧ Below w.heap.size w w' := by
  obtain ⟨a, cap, A, C, hr⟩ := h.row
  have hd := hr.hd
  have hmax := h.max
  have hbl := h.lt b h.ob
  have hz : ∀ W, M.look i = CV.zero → Below w.heap.size w W → ∃ a' cap', Value.agg #[.int .u64 0, .int .i64 0, .slice none 0 0] = Value.agg #[.int .u64 (M.look i).ver, .int .i64 (M.look i).n, .slice a' (M.look i).L.length cap'] ∧
      SlAt 2 W a' cap' (M.look i).L.length (flatI (M.look i).L) ∧ (∀ j, inB a' j → w.heap.size ≤ j) ∧ Below w.heap.size w W := fun W e hB => by
    rw [e]
    exact ⟨none, 0, rfl, SlAt.nil _ _, (fun j hj => by obtain ⟨x, hx, _⟩ := hj; cases hx), hB⟩
  by_cases h0 : i < 0
  · have HZ := hidq (fun W => hz W (look_neg h0))
    clear hr h hz
    go_enter Tryz.func38, Tryz.ntmps38
    go_wp2
    obtain ⟨a', cap', hv, hq⟩ := HZ.out _ ((Below.refl _ _).alloc (Nat.le_refl _) _)
    exact bodyPost_ret (v := .agg #[.int .u64 0, .int .i64 0, .slice none 0 0]) (by simp [results, Tryz.results38, go_sem]) rfl ⟨a', cap', congrArg _ hv, hq⟩
  · have h0' : decide (i < 0) = false := decide_eq_false h0
    obtain ⟨k, rfl⟩ : ∃ k : Nat, i = (k : Int) := ⟨i.toNat, by omega⟩
    by_cases h1 : M.len ≤ k
    · have HZ := hidq (fun W => hz W (by rw [look_nat]; exact h.rest k h1))
      have h1i : (M.len : Int) ≤ (k : Int) := by omega
      clear hr h hz
      generalize M.len = n at *
      go_enter Tryz.func38, Tryz.ntmps38
      go_wp2
      obtain ⟨a', cap', hv, hq⟩ := HZ.out _ ((Below.refl _ _).alloc (Nat.le_refl _) _)
      exact bodyPost_ret (v := .agg #[.int .u64 0, .int .i64 0, .slice none 0 0]) (by simp [results, Tryz.results38, go_sem]) rfl ⟨a', cap', congrArg _ hv, hq⟩
    · rw [look_nat]
      have h1' : decide ((M.len : Int) ≤ (k : Int)) = false := decide_eq_false (by omega)
      have h1i : (k : Int) < (M.len : Int) := by omega
      obtain ⟨g, rfl, hg, hc0⟩ := hr.sl.cell (flatC_0 M A C k (by omega))
      obtain ⟨g1, e1, _, hc1⟩ := hr.sl.cell (flatC_1 M A C k (by omega))
      obtain ⟨g2, e2, _, hc2⟩ := hr.sl.cell (flatC_2 M A C k (by omega))
      cases e1; cases e2
      have hcp := hidq (copied_any (M.cell k).ver (M.cell k).n (A k) (C k) _ _ (w.alloc (boxC 0 0 (.slice none 0 0))) ((hr.its k (by omega)).but (S := fun _ => False) ((But.refl _ _).alloc _) (fun _ _ e => e)) (h.few k))
      have hle := hr.sl.le
      generalize (M.cell k).ver = v at *
      generalize (M.cell k).n = x at *
      generalize (M.cell k).L = L at *
      generalize A k = ak at *
      generalize C k = ck at *
      clear hr h hz
      generalize M.len = n at *
      go_enter Tryz.func38, Tryz.ntmps38
      go_wp2_with fail
      refine hcp.out.mono ?_
      rintro e w1 ⟨a', cap', rfl, hS, hF, hb⟩
      have hz2 : w.heap.size < w1.heap.size := by have := hb.size; simp at this; omega
      have d0 : w1.cell? ⟨w.heap.size, 0, none⟩ = some (.int .u64 0) := by rw [hb.cell (p := ⟨w.heap.size, 0, none⟩) (by simp)]; simp
      have d1 : w1.cell? ⟨w.heap.size, 1, none⟩ = some (.int .i64 0) := by rw [hb.cell (p := ⟨w.heap.size, 1, none⟩) (by simp)]; simp
      have d2 : w1.cell? ⟨w.heap.size, 2, none⟩ = some (.slice none 0 0) := by rw [hb.cell (p := ⟨w.heap.size, 2, none⟩) (by simp)]; simp
      have z0 : w1.frozen? ⟨w.heap.size, 0, none⟩ = false := by rw [hb.frozen (p := ⟨w.heap.size, 0, none⟩) (by simp)]; simp
      have z1 : w1.frozen? ⟨w.heap.size, 1, none⟩ = false := by rw [hb.frozen (p := ⟨w.heap.size, 1, none⟩) (by simp)]; simp
      have z2 : w1.frozen? ⟨w.heap.size, 2, none⟩ = false := by rw [hb.frozen (p := ⟨w.heap.size, 2, none⟩) (by simp)]; simp
      have hB0 : Below w.heap.size w w1 := ((Below.refl _ _).alloc (Nat.le_refl _) _).trans (hb.mono (by simp))
      have hfin := hidq (fun w2 (h2 : But (fun j => j = w.heap.size) w1 w2) => (show SlAt 2 w2 a' cap' L.length (flatI L) ∧ (∀ j, inB a' j → w.heap.size ≤ j) ∧ Below w.heap.size w w2 from
        ⟨hS.but h2 (fun j hj e => by have := hF j hj; simp at this; omega), fun j hj => by have := hF j hj; simp at this; omega, hB0.trans (h2.below hB0.size (fun j e => by omega))⟩))
      clear hb hS hF hB0 hcp
      go_wp2
      refine bodyPost_ret (v := .agg #[.int .u64 v, .int .i64 x, .slice a' L.length cap']) (by simp [results, Tryz.results38, go_sem, d0, d1, d2]) rfl ⟨a', cap', rfl, hfin.out _ ?_⟩
      exact (((But.refl (fun j => j = w.heap.size) w1).set1 _ _ rfl _).set1 _ _ rfl _).set1 _ _ rfl _

/-- How many cells a memory's row has. -/
def lenIn (w : World) (b : Nat) : Nat := match w.cell? ⟨b, 0, none⟩ with | some (.slice _ n _) => n | _ => 0
theorem lenIn_at {w : World} {b : Nat} {O : Nat → Prop} {M : Mem} (h : MemAt w b O M) : lenIn w b = M.len := by
  obtain ⟨a, cap, A, C, hr⟩ := h.row
  unfold lenIn; rw [hr.hd]
theorem plainC : PlainK Tryz.prog 3 159 107 := by
  have h : (Tryz.prog.info? 107).map (fun i => (i.zero, i.size, i.bytes)) = some (some (.agg #[.int .u64 0, .int .i64 0, .slice none 0 0]), 3, 40) := by kernel_rfl
  obtain ⟨i, hi, he⟩ := Option.map_eq_some_iff.1 h
  simp only [Prod.mk.injEq] at he
  exact ⟨i, _, Tryz.underlying159, hi, he.1, he.2.1, rfl, by rw [he.2.2]; decide⟩

/-- One cell more at the end. -/
theorem flatC_snoc (M : Mem) (A : Nat → Option Addr) (C : Nat → Nat) (hz : M.cell M.len = CV.zero) :
    flatC (M.reach (M.len + 1)) (fun i => if i = M.len then none else A i) (fun i => if i = M.len then 0 else C i) = flatC M A C ++ [.int .u64 0, .int .i64 0, .slice none 0 0] := by
  have hm : (M.reach (M.len + 1)).len = M.len + 1 := by show max M.len (M.len + 1) = _; omega
  have hcell : ∀ j, (M.reach (M.len + 1)).cell j = M.cell j := fun _ => rfl
  apply List.ext_getElem?
  intro t
  by_cases ht : t < M.len * 3
  · rw [flatC_get _ _ _ t (by rw [hm]; omega), List.getElem?_append_left (by rw [flatC_length]; exact ht), flatC_get _ _ _ t ht]
    unfold cellC
    dsimp only
    rw [hcell, if_neg (show ¬ t / 3 = M.len by omega), if_neg (show ¬ t / 3 = M.len by omega)]
  · rw [List.getElem?_append_right (by rw [flatC_length]; omega), flatC_length]
    by_cases ht2 : t < (M.len + 1) * 3
    · rw [flatC_get _ _ _ t (by rw [hm]; exact ht2)]
      have : t = M.len * 3 ∨ t = M.len * 3 + 1 ∨ t = M.len * 3 + 2 := by omega
      unfold cellC
      rw [hcell]
      rcases this with rfl | rfl | rfl
      · rw [if_pos (by omega), show M.len * 3 / 3 = M.len by omega, hz, show M.len * 3 - M.len * 3 = 0 by omega]; rfl
      · rw [if_neg (by omega), if_pos (by omega), show (M.len * 3 + 1) / 3 = M.len by omega, hz, show M.len * 3 + 1 - M.len * 3 = 1 by omega]; rfl
      · rw [if_neg (by omega), if_neg (by omega), show (M.len * 3 + 2) / 3 = M.len by omega, hz, show M.len * 3 + 2 - M.len * 3 = 2 by omega]; dsimp only; rw [if_pos rfl, if_pos rfl]; rfl
    · rw [List.getElem?_eq_none (by rw [flatC_length, hm]; omega), List.getElem?_eq_none (by simp; omega)]

/-! Parts of a cell, of a value. -/
theorem fldC_0 (x y z : Value) (w : World) : (Instr.field 107 (.agg #[x, y, z]) 0).run Tryz.prog w = .ok x w := by kernel_rfl
theorem fldC_1 (x y z : Value) (w : World) : (Instr.field 107 (.agg #[x, y, z]) 1).run Tryz.prog w = .ok (.agg #[y, z]) w := by kernel_rfl
theorem fldV_0 (x y : Value) (w : World) : (Instr.field 97 (.agg #[x, y]) 0).run Tryz.prog w = .ok x w := by kernel_rfl
theorem fldV_1 (x y : Value) (w : World) : (Instr.field 97 (.agg #[x, y]) 1).run Tryz.prog w = .ok y w := by kernel_rfl
end Go.Proofs.YtdghgmaoamjnlaaGreat

namespace Go.Proofs.YtdghgmaoamjnlaaGreat
open Go.RowKit Go.Sort

theorem own'_mono {O : Nat → Prop} {w w1 w2 : World} (h1 : w.heap.size ≤ w1.heap.size) (h2 : w1.heap.size ≤ w2.heap.size) {k : Nat} (h : own' (own' O w w1) w1 w2 k) : own' O w w2 k := by
  rcases h with (h | h) | h
  · exact .inl h
  · exact .inr ⟨h.1, by omega⟩
  · exact .inr ⟨by omega, h.2⟩
theorem MemAt.own {w : World} {b : Nat} {O O' : Nat → Prop} {M : Mem} (h : MemAt w b O M) (hi : ∀ k, O k → O' k) (hl : ∀ k, O' k → k < w.heap.size) : MemAt w b O' M := by
  obtain ⟨a, cap, A, C, hr⟩ := h.row
  exact ⟨hi _ h.ob, hl, ⟨a, cap, A, C, hr.hd, hr.sl, fun j hj => ⟨hi _ (hr.own j hj).1, (hr.own j hj).2⟩, hr.its, fun i hi' j hj => ⟨hi _ (hr.ito i hi' j hj).1, (hr.ito i hi' j hj).2⟩⟩, h.clk, h.fz0, h.fz1, h.max, h.rest, h.few⟩

theorem reach_max (M : Mem) (n : Nat) (h : n ≤ M.len) : M.reach n = M := by
  unfold Mem.reach; rw [Nat.max_eq_left h]
theorem reach_twice (M : Mem) (m n : Nat) (h : m ≤ n) : (M.reach m).reach n = M.reach n := by
  unfold Mem.reach; simp only [Mem.mk.injEq, and_true]; omega

/-- A row that was moved or grown in place, with one cell more. -/
theorem mem_grown {w w1 : World} {b g cap' : Nat} {O : Nat → Prop} {M : Mem} {a : Option Addr} {cap : Nat} {A : Nat → Option Addr} {C : Nat → Nat}
    (h : MemAt w b O M) (hr : RowC w b O M a cap A C) (hl : M.len < 1000)
    (hF : Flat 3 w1 g cap' (M.len + 1) (flatC M A C ++ [.int .u64 0, .int .i64 0, .slice none 0 0])) (hb : But (inB a) w w1) (hg : inB a g ∨ w.heap.size ≤ g) :
    MemAt (w1.setCell ⟨b, 0, none⟩ (.slice (some ⟨g, 0, none⟩) (M.len + 1) cap')) b (own' O w w1) (M.reach (M.len + 1)) ∧ But O w (w1.setCell ⟨b, 0, none⟩ (.slice (some ⟨g, 0, none⟩) (M.len + 1) cap')) := by
  have hbl := h.lt b h.ob
  have hnb : ¬ inB a b := fun e => (hr.own b e).2 rfl
  have hm : (M.reach (M.len + 1)).len = M.len + 1 := by show max M.len (M.len + 1) = _; omega
  have c0 : w1.cell? ⟨b, 0, none⟩ = some (.slice a M.len cap) := by rw [hb.cell (p := ⟨b, 0, none⟩) hbl hnb]; exact hr.hd
  have hgo : own' O w w1 g ∧ g ≠ b := by
    rcases hg with hg | hg
    · exact ⟨.inl (hr.own g hg).1, (hr.own g hg).2⟩
    · exact ⟨.inr ⟨hg, hF.lt⟩, by omega⟩
  have hset : But (fun k => k = b) w1 (w1.setCell ⟨b, 0, none⟩ (.slice (some ⟨g, 0, none⟩) (M.len + 1) cap')) := (But.refl (fun k => k = b) w1).set1 b 0 rfl _
  refine ⟨⟨.inl h.ob, ?_, ⟨some ⟨g, 0, none⟩, cap', fun i => if i = M.len then none else A i, fun i => if i = M.len then 0 else C i, ?_⟩, ?_, ?_, ?_, by rw [hm]; omega, ?_, h.few⟩, ?_⟩
  · intro k hk
    rw [World.size_setCell]
    rcases hk with hk | hk
    · exact Nat.lt_of_lt_of_le (h.lt k hk) hb.size
    · exact hk.2
  · refine ⟨by rw [World.cell?_setCell_same' _ _ _ (by rw [c0]; rfl), hm], .inr ⟨g, rfl, ?_⟩, ?_, ?_, ?_⟩
    · rw [hm, flatC_snoc M A C (h.rest _ (Nat.le_refl _))]
      exact hF.but hset hgo.2
    · rintro j ⟨x, hx, rfl⟩; cases hx; exact hgo
    · intro i hi
      rw [hm] at hi
      by_cases e : i = M.len
      · subst e
        show SlAt 2 _ (if M.len = M.len then none else A M.len) (if M.len = M.len then 0 else C M.len) (M.cell M.len).L.length (flatI (M.cell M.len).L)
        rw [if_pos rfl, if_pos rfl, h.rest _ (Nat.le_refl _)]
        exact SlAt.nil _ _
      · show SlAt 2 _ (if i = M.len then none else A i) (if i = M.len then 0 else C i) (M.cell i).L.length (flatI (M.cell i).L)
        rw [if_neg e, if_neg e]
        have hi' : i < M.len := by omega
        exact ((hr.its i hi').but hb (fun j hj => (hr.ito i hi' j hj).2.2)).but hset (fun j hj => (hr.ito i hi' j hj).2.1)
    · intro i hi j hj
      rw [hm] at hi
      by_cases e : i = M.len
      · rw [if_pos e] at hj; obtain ⟨x, hx, _⟩ := hj; cases hx
      · rw [if_neg e] at hj
        have hi' : i < M.len := by omega
        have h1 := hr.ito i hi' j hj
        refine ⟨.inl h1.1, h1.2.1, ?_⟩
        rintro ⟨x, hx, hxj⟩
        cases hx
        have hxj' : g = j := hxj
        rcases hg with hg | hg
        · rw [hxj'] at hg; exact h1.2.2 hg
        · have := h.lt j h1.1; omega
  · rw [World.cell?_setCell_other _ _ _ _ (fun e => by injection e with _ e2; cases e2), hb.cell (p := ⟨b, 1, none⟩) hbl hnb]
    exact h.clk
  · rw [World.frozen?_setCell, hb.frozen (p := ⟨b, 0, none⟩) hbl hnb]; exact h.fz0
  · rw [World.frozen?_setCell, hb.frozen (p := ⟨b, 1, none⟩) hbl hnb]; exact h.fz1
  · intro i hi
    rw [hm] at hi
    exact h.rest i (by omega)
  · exact (hb.mono (fun k _ e => (hr.own k e).1)).trans (hset.mono (fun k _ e => by rw [e]; exact h.ob))

theorem add1 (n : Nat) : ((n + 1 : Nat) : Int) = (n : Int) + 1 := by omega
set_option maxHeartbeats 1000000 in
theorem reach_any (b i : Nat) (O : Nat → Prop) (M : Mem) (w : World) (h : MemAt w b O M) (hi : i < 1000) :
    Calls Tryz.prog 77 #[.pointer (some ⟨b, 0, none⟩), .int .i64 (i : Int)] w fun e w' => e = .returned (.tuple #[]) ∧ MemAt w' b (own' O w w') (M.reach (i + 1)) ∧ But O w w' := by
  have hi1 : (i : Int) < 1000 := by omega
  go_enter Tryz.func77, Tryz.ntmps77
  go_wp2_with fail
  go_loopw [] (fun wr => ∃ n, n ≤ max M.len (i + 1) ∧ MemAt wr b (own' O w wr) (M.reach n) ∧ But O w wr) (fun wr => i + 1 - lenIn wr b)
  case atStart => exact ⟨M.len, by omega, by rw [reach_max M _ (Nat.le_refl _)]; exact h.own (fun k hk => .inl hk) (fun k hk => hk.elim (h.lt k) (fun e => e.2)), But.refl _ _⟩
  case round =>
    obtain ⟨n, hn, hM, hB⟩ := hrel
    obtain ⟨a, cap, A, C, hr⟩ := hM.row
    obtain ⟨m, hm⟩ : ∃ m, (M.reach n).len = m := ⟨_, rfl⟩
    have hmm : m = max M.len n := hm.symm
    have hd := hr.hd
    rw [hm] at hd
    have hfz := hM.fz0
    have hbl := hM.lt b hM.ob
    have hmx := hM.max
    rw [hm] at hmx
    have hmx1 : (m : Int) ≤ 1000 := by omega
    by_cases hlt : m ≤ i
    · have hl1 : (m : Int) ≤ (i : Int) := by omega
      have hsr : Src Tryz.prog 3 159 (.slice (some ⟨wr.heap.size, 0, none⟩) 1 1) 1 [.int .u64 0, .int .i64 0, .slice none 0 0] (wr.alloc (boxC 0 0 (.slice none 0 0))) :=
        src_new 3 _ Tryz.underlying159 _ _ rfl (fun j u hu => by rw [World.cell?_alloc_new]; rcases j with _ | _ | _ | j <;> first | exact hu | (simp at hu)) (fun u hu => by simp at hu; rcases hu with rfl | rfl | rfl <;> rfl)
      have hM1 : MemAt (wr.alloc (boxC 0 0 (.slice none 0 0))) b (own' O w wr) (M.reach n) := hM.but (S := fun _ => False) ((But.refl _ _).alloc _) (fun _ _ e => e)
      have hr1 := hr.but (S := fun _ => False) hbl ((But.refl _ wr).alloc (boxC 0 0 (.slice none 0 0))) (fun _ _ e => e) hM.ob
      have hsl := hr1.sl
      rw [hm] at hsl
      have hc1 := hr1.hd
      rw [hm] at hc1
      have hz1 := hM1.fz0
      have hnb : ¬ inB a b := fun e => (hr.own b e).2 rfl
      have hbl1 : b < (wr.alloc (boxC 0 0 (.slice none 0 0))).heap.size := by simp; omega
      have FIN := hidq (fun g' cap' w' (hF : Flat 3 w' g' cap' (m + 1) (flatC (M.reach n) A C ++ [.int .u64 0, .int .i64 0, .slice none 0 0])) (hb' : But (inB a) (wr.alloc (boxC 0 0 (.slice none 0 0))) w') (hg' : inB a g' ∨ (wr.alloc (boxC 0 0 (.slice none 0 0))).heap.size ≤ g') =>
        mem_grown hM1 hr1 (by rw [hm]; omega) (by rw [hm]; exact hF) hb' hg')
      rw [hm] at FIN
      have FC := hidq (fun w' (hb' : But (inB a) (wr.alloc (boxC 0 0 (.slice none 0 0))) w') => (show w'.cell? ⟨b, 0, none⟩ = some (.slice a m cap) ∧ w'.frozen? ⟨b, 0, none⟩ = false ∧ b < w'.heap.size from
        ⟨(hb'.cell (p := ⟨b, 0, none⟩) hbl1 hnb).trans hc1, (hb'.frozen (p := ⟨b, 0, none⟩) hbl1 hnb).trans hz1, Nat.lt_of_lt_of_le hbl1 hb'.size⟩))
      have HSL := hidq hsl
      have HSR := hidq hsr
      have HMM := hidq hmm
      have HM := hidq hM
      have HM1 := hidq hm
      clear hM1 hr1 hr hsl hsr hmm hM hm hnb hbl1
      go_wp2_with (at_builtin; refine wpList_sl plainC _ rfl (.tmp 15) (.tmp 17) rfl a cap m _ rfl HSL.out _ rfl 1 _ HSR.out (by omega) (by omega) ?_; intro g' cap' w' hF hb' hg'; obtain ⟨fc1, fc2, fc3⟩ := FC.out w' hb'; have HF := hidq hF; have HB := hidq hb'; clear hF hb')
      have hgr := FIN.out g' cap' w' HF.out HB.out hg'
      have hsz := HB.out.size
      rw [World.size_alloc] at hsz
      have hmn : m = max M.len n := HMM.out
      have hB2 : But O w (w'.setCell ⟨b, 0, none⟩ (.slice (some ⟨g', 0, none⟩) (m + 1) cap')) := by
        refine hB.then (T := own' O w wr) (((But.refl _ wr).alloc _).trans hgr.2) (fun k hk e => ?_)
        rcases e with e | e
        · exact e
        · omega
      have hM2 : MemAt (w'.setCell ⟨b, 0, none⟩ (.slice (some ⟨g', 0, none⟩) (m + 1) cap')) b (own' O w (w'.setCell ⟨b, 0, none⟩ (.slice (some ⟨g', 0, none⟩) (m + 1) cap'))) (M.reach (m + 1)) := by
        have h1 := hgr.1
        rw [reach_twice M n (m + 1) (by omega)] at h1
        refine h1.own (fun k hk => ?_) (fun k hk => ?_)
        · rcases hk with (e | e) | e
          · exact .inl e
          · exact .inr ⟨e.1, by rw [World.size_setCell]; omega⟩
          · rw [World.size_alloc] at e; exact .inr ⟨by have := hB.size; omega, by rw [World.size_setCell]; omega⟩
        · rcases hk with e | e
          · exact h1.lt k (.inl (.inl e))
          · exact e.2
      have HM2 := hidq hM2
      have HB2 := hidq hB2
      have hl2 : lenIn (w'.setCell ⟨b, 0, none⟩ (.slice (some ⟨g', 0, none⟩) (m + 1) cap')) b = m + 1 := by rw [lenIn_at hM2]; show max M.len (m + 1) = m + 1; omega
      have hl1' : lenIn wr b = m := by rw [lenIn_at HM.out]; exact HM1.out
      have HL := hidq (And.intro hl2 hl1')
      clear hgr hM2 hB2 hl2 hl1'
      go_wp2
      go_roundw
      case rel => exact ⟨m + 1, by have := HMM.out; omega, HM2.out, HB2.out⟩
      case measure => rw [HL.out.1, HL.out.2]; omega
    · have hl1 : decide ((m : Int) ≤ (i : Int)) = false := decide_eq_false (by omega)
      have hM2 : MemAt wr b (own' O w wr) (M.reach (i + 1)) := by
        have e : M.reach n = M.reach (i + 1) := by unfold Mem.reach; simp only [Mem.mk.injEq, and_true]; omega
        rw [← e]; exact hM
      have HM2 := hidq hM2
      clear hM2 hM hr hmm hm hn
      go_wp2
      go_end0
      exact ⟨rfl, HM2.out, hB⟩
end Go.Proofs.YtdghgmaoamjnlaaGreat

namespace Go.Proofs.YtdghgmaoamjnlaaGreat
open Go.RowKit Go.Sort

/-- One cell of a row is laid anew. -/
theorem Flat.set {k g cap n t : Nat} {w : World} {l : List Value} {v : Value} (h : Flat k w g cap n l) (ht : t < l.length) (hv : v.oneCell' = true) : Flat k (w.setCell ⟨g, t, none⟩ v) g cap n (l.set t v) := by
  have hc : (w.cell? ⟨g, t, none⟩).isSome = true := by rw [h.cell t _ (List.getElem?_eq_getElem ht)]; rfl
  refine ⟨by rw [World.size_setCell]; exact h.lt, by rw [List.length_set]; exact h.len, h.le, h.cmax, ?_, ?_, ?_⟩
  · intro s u hu
    rw [List.getElem?_set] at hu
    by_cases e : t = s
    · subst e
      rw [if_pos rfl, if_pos ht] at hu
      cases hu
      rw [World.cell?_setCell_same' _ _ _ hc]
    · rw [if_neg e] at hu
      rw [World.cell?_setCell_other _ _ _ _ (fun q => e (by injection q))]
      exact h.cell s u hu
  · intro u hu
    rcases List.mem_or_eq_of_mem_set hu with hu | rfl
    · exact h.one u hu
    · exact hv
  · intro j hj
    refine ⟨?_, by rw [World.frozen?_setCell]; exact (h.there j hj).2⟩
    by_cases e : t = j
    · subst e; rw [World.cell?_setCell_same' _ _ _ hc]; rfl
    · rw [World.cell?_setCell_other _ _ _ _ (fun q => e (by injection q))]; exact (h.there j hj).1

theorem flatC_set (M : Mem) (A : Nat → Option Addr) (C : Nat → Nat) (i : Nat) (v x : Int) (L : List It) (a' : Option Addr) (cap' : Nat) (M' : Mem) (hl : M'.len = M.len) (hc : ∀ j, M'.cell j = if j = i then ⟨v, x, L⟩ else M.cell j) :
    (((flatC M A C).set (i * 3) (.int .u64 v)).set (i * 3 + 1) (.int .i64 x)).set (i * 3 + 2) (.slice a' L.length cap') = flatC M' (fun j => if j = i then a' else A j) (fun j => if j = i then cap' else C j) := by
  apply List.ext_getElem?
  intro t
  by_cases ht : t < M.len * 3
  · rw [List.getElem?_set, List.getElem?_set, List.getElem?_set, flatC_get M' _ _ t (by rw [hl]; exact ht), flatC_get M A C t ht]
    simp only [List.length_set, flatC_length]
    unfold cellC
    dsimp only
    rw [hc]
    by_cases e : t / 3 = i
    · have : t = i * 3 ∨ t = i * 3 + 1 ∨ t = i * 3 + 2 := by omega
      rw [if_pos e, if_pos e, if_pos e]
      rcases this with rfl | rfl | rfl
      · rw [if_neg (by omega), if_neg (by omega), if_pos rfl, if_pos (by omega), if_pos (by omega)]
      · rw [if_neg (by omega), if_pos rfl, if_pos (by omega), if_neg (by omega), if_pos (by omega)]
      · rw [if_pos rfl, if_pos (by omega), if_neg (by omega), if_neg (by omega)]
    · rw [if_neg e, if_neg e, if_neg e, if_neg (by omega), if_neg (by omega), if_neg (by omega)]
  · rw [List.getElem?_eq_none (by simp [flatC_length]; omega), List.getElem?_eq_none (by rw [flatC_length, hl]; omega)]

/-- A memory whose clock has gone on and whose cell was laid anew. -/
theorem mem_laid {w w1 : World} {b i : Nat} {O : Nat → Prop} {M : Mem} (h : MemAt w b O M) (hi : i < M.len) (g cap : Nat) (A : Nat → Option Addr) (C : Nat → Nat) (hr : RowC w b O M (some ⟨g, 0, none⟩) cap A C)
    (x : Int) (L : List It) (a' : Option Addr) (cap' : Nat) (hb0 : But (fun _ => False) (w.setCell ⟨b, 1, none⟩ (.int .u64 ((M.clock + 1 : Nat) : Int))) w1) (hS : SlAt 2 w1 a' cap' L.length (flatI L)) (hF : ∀ j, inB a' j → w.heap.size ≤ j) (hL : L.length ≤ 1000000) (w2 : World)
    (hw2 : w2 = ((w1.setCell ⟨g, i * 3, none⟩ (.int .u64 ((M.clock + 1 : Nat) : Int))).setCell ⟨g, i * 3 + 1, none⟩ (.int .i64 x)).setCell ⟨g, i * 3 + 2, none⟩ (.slice a' L.length cap')) :
    MemAt w2 b (own' O w w2) (M.put i x L) ∧ But O w w2 := by
  have hbl := h.lt b h.ob
  have hgo := hr.own g ⟨_, rfl, rfl⟩
  have hgl := h.lt g hgo.1
  have hput : (M.put i x L).len = M.len := by show max M.len (i + 1) = _; omega
  have hbut : But (fun k => k = g) w1 w2 := by
    rw [hw2]
    exact (((But.refl (fun k => k = g) w1).set1 _ _ rfl _).set1 _ _ rfl _).set1 _ _ rfl _
  have hb : But (fun k => k = b) w w1 := ((But.refl (fun k => k = b) w).set1 b 1 rfl _).then hb0 (fun _ _ e => e.elim)
  have hsz : w2.heap.size = w1.heap.size := by rw [hw2]; simp [World.size_setCell]
  have hneb : ∀ (p q : Nat), (⟨g, p, none⟩ : Addr) ≠ ⟨b, q, none⟩ := fun p q e => by injection e with e1; exact hgo.2 e1
  have hc1 : w1.cell? ⟨b, 1, none⟩ = some (.int .u64 ((M.clock + 1 : Nat) : Int)) := by
    rw [hb0.cell (p := ⟨b, 1, none⟩) (by rw [World.size_setCell]; exact hbl) id, World.cell?_setCell_same' _ _ _ (by rw [h.clk]; rfl)]
  have hc0 : w1.cell? ⟨b, 0, none⟩ = some (.slice (some ⟨g, 0, none⟩) M.len cap) := by
    rw [hb0.cell (p := ⟨b, 0, none⟩) (by rw [World.size_setCell]; exact hbl) id, World.cell?_setCell_other _ _ _ _ (fun e => by injection e with _ e2; cases e2)]
    exact hr.hd
  have hB : But O w w2 := (hb.mono (fun k _ e => by rw [e]; exact h.ob)).then hbut (fun k _ e => by rw [e]; exact hgo.1)
  refine ⟨⟨.inl h.ob, ?_, ⟨some ⟨g, 0, none⟩, cap, fun j => if j = i then a' else A j, fun j => if j = i then cap' else C j, ?_⟩, ?_, ?_, ?_, by rw [hput]; exact h.max, ?_, ?_⟩, hB⟩
  · intro k hk
    rcases hk with hk | hk
    · exact Nat.lt_of_lt_of_le (h.lt k hk) hB.size
    · exact hk.2
  · refine ⟨?_, .inr ⟨g, rfl, ?_⟩, ?_, ?_, ?_⟩
    · rw [hput, hw2, World.cell?_setCell_other _ _ _ _ (hneb _ _), World.cell?_setCell_other _ _ _ _ (hneb _ _), World.cell?_setCell_other _ _ _ _ (hneb _ _)]
      exact hc0
    · rcases hr.sl with ⟨e, _⟩ | ⟨g', e, hf⟩
      · cases e
      · cases e
        have hf1 := hf.but hb hgo.2
        have hlen := flatC_length M A C
        have hf2 := ((hf1.set (t := i * 3) (v := .int .u64 ((M.clock + 1 : Nat) : Int)) (by rw [hlen]; omega) rfl).set (t := i * 3 + 1) (v := .int .i64 x) (by rw [List.length_set, hlen]; omega) rfl).set (t := i * 3 + 2) (v := .slice a' L.length cap') (by rw [List.length_set, List.length_set, hlen]; omega) rfl
        rw [flatC_set M A C i ((M.clock + 1 : Nat) : Int) x L a' cap' (M.put i x L) hput (fun j => rfl), ← hw2] at hf2
        rw [hput]
        exact hf2
    · rintro j ⟨y, hy, rfl⟩; cases hy; exact ⟨.inl hgo.1, hgo.2⟩
    · intro j hj
      rw [hput] at hj
      show SlAt 2 w2 (if j = i then a' else A j) (if j = i then cap' else C j) (if j = i then (⟨((M.clock + 1 : Nat) : Int), x, L⟩ : CV) else M.cell j).L.length (flatI (if j = i then (⟨((M.clock + 1 : Nat) : Int), x, L⟩ : CV) else M.cell j).L)
      by_cases e : j = i
      · rw [if_pos e, if_pos e, if_pos e]
        exact hS.but hbut (fun k hk e => by have := hF k hk; omega)
      · rw [if_neg e, if_neg e, if_neg e]
        refine ((hr.its j hj).but hb (fun k hk => (hr.ito j hj k hk).2.1)).but hbut (fun k hk e => ?_)
        exact (hr.ito j hj k hk).2.2 ⟨_, rfl, e.symm⟩
    · intro j hj k hk
      rw [hput] at hj
      have hk' : inB (if j = i then a' else A j) k := hk
      by_cases e : j = i
      · rw [if_pos e] at hk'
        have h1 := hF k hk'
        have h2 := hS.lt k hk'
        refine ⟨.inr ⟨h1, by omega⟩, by omega, ?_⟩
        rintro ⟨y, hy, hyk⟩; cases hy
        have : g = k := hyk
        omega
      · rw [if_neg e] at hk'
        have h1 := hr.ito j hj k hk'
        exact ⟨.inl h1.1, h1.2.1, h1.2.2⟩
  · show w2.cell? ⟨b, 1, none⟩ = some (.int .u64 ((M.clock + 1 : Nat) : Int))
    rw [hw2, World.cell?_setCell_other _ _ _ _ (hneb _ _), World.cell?_setCell_other _ _ _ _ (hneb _ _), World.cell?_setCell_other _ _ _ _ (hneb _ _)]
    exact hc1
  · rw [hw2, World.frozen?_setCell, World.frozen?_setCell, World.frozen?_setCell, hb0.frozen (p := ⟨b, 0, none⟩) (by rw [World.size_setCell]; exact hbl) id, World.frozen?_setCell]; exact h.fz0
  · rw [hw2, World.frozen?_setCell, World.frozen?_setCell, World.frozen?_setCell, hb0.frozen (p := ⟨b, 1, none⟩) (by rw [World.size_setCell]; exact hbl) id, World.frozen?_setCell]; exact h.fz1
  · intro j hj
    rw [hput] at hj
    show (if j = i then _ else M.cell j) = _
    rw [if_neg (by omega)]; exact h.rest j hj
  · intro j
    show (if j = i then (⟨((M.clock + 1 : Nat) : Int), x, L⟩ : CV) else M.cell j).L.length ≤ _
    by_cases e : j = i
    · rw [if_pos e]; exact hL
    · rw [if_neg e]; exact h.few j

theorem force_no (b : Nat) (i : Int) (x : Int) (s : Value) (w : World) (hi : i < 0 ∨ 1000 ≤ i) :
    Calls Tryz.prog 31 #[.pointer (some ⟨b, 0, none⟩), .int .i64 i, .agg #[.int .i64 x, s]] w fun e w' => e = .returned (.bool false) ∧ Below w.heap.size w w' := by
  by_cases h0 : i < 0
  · clear hi
    go_enter Tryz.func31, Tryz.ntmps31
    go_wp2
    go_ret
    exact ⟨rfl, (Below.refl _ _).alloc (Nat.le_refl _) _⟩
  · have h0' : decide (i < 0) = false := decide_eq_false h0
    have h1 : 1000 ≤ i := by omega
    clear hi h0
    go_enter Tryz.func31, Tryz.ntmps31
    go_wp2
    go_ret
    exact ⟨rfl, (Below.refl _ _).alloc (Nat.le_refl _) _⟩

theorem put_reach (M : Mem) (i : Nat) (x : Int) (L : List It) : (M.reach (i + 1)).put i x L = M.put i x L := by
  unfold Mem.put Mem.reach
  simp only [Mem.mk.injEq, and_true]
  omega

set_option maxHeartbeats 4000000 in
theorem force_any (b i : Nat) (O : Nat → Prop) (M : Mem) (x : Int) (a : Option Addr) (cap : Nat) (L : List It) (w : World) (h : MemAt w b O M) (hS : SlAt 2 w a cap L.length (flatI L)) (hO : ∀ j, inB a j → ¬ O j) (hL : L.length ≤ 1000000) (hi : i < 1000) (hck : M.clock < 4611686018427387904) :
    Calls Tryz.prog 31 #[.pointer (some ⟨b, 0, none⟩), .int .i64 (i : Int), .agg #[.int .i64 x, .slice a L.length cap]] w fun e w' => e = .returned (.bool true) ∧ MemAt w' b (own' O w w') (M.put i x L) ∧ But O w w' := by
  have hbl := h.lt b h.ob
  have hB1 : But (fun _ => False) w (w.alloc (boxV x (.slice a L.length cap))) := (But.refl _ _).alloc _
  have hRe := hidq (reach_any b i O M _ (h.but hB1 (fun _ _ e => e)) hi)
  have hi0 : decide ((i : Int) < 0) = false := decide_eq_false (by omega)
  have hi1 : decide ((1000 : Int) ≤ (i : Int)) = false := decide_eq_false (by omega)
  have HH := hidq h
  have HS := hidq hS
  clear h hS
  go_enter Tryz.func31, Tryz.ntmps31
  go_wp2_with fail
  refine hRe.out.mono ?_
  rintro e w1 ⟨rfl, hM, hB2⟩
  have hbl1 := hM.lt b hM.ob
  have hwz : w.heap.size < w1.heap.size := by have := hB2.size; simp at this; omega
  have hOw : ¬ O w.heap.size := fun e => by have := HH.out.lt _ e; omega
  have hck1 := hM.clk
  have hf1 := hM.fz1
  obtain ⟨ar, capr, A, C, hr⟩ := hM.row
  have hlen : i < (M.reach (i + 1)).len := by show i < max M.len (i + 1); omega
  obtain ⟨g, rfl, hg, _⟩ := hr.sl.cell (flatC_0 _ A C i hlen)
  have hd := hr.hd
  have hgo := hr.own g ⟨_, rfl, rfl⟩
  have hle := hr.sl.le
  have hmx := hM.max
  have HA := hidq (show SlAt 2 w1 a cap L.length (flatI L) from (HS.out.but hB1 (fun _ _ e => e)).but hB2 hO)
  have hab : ∀ j, inB a j → ¬ j = b := fun j hj e => hO j hj (by rw [e]; exact HH.out.ob)
  obtain ⟨n, hn⟩ : ∃ n, (M.reach (i + 1)).len = n := ⟨_, rfl⟩
  rw [hn] at hd hlen hle hmx
  have hckr : (M.reach (i + 1)).clock = M.clock := rfl
  rw [hckr] at hck1
  have hNI : (i : Int) < (n : Int) := by omega
  have hle2 : n ≤ capr := hle
  obtain ⟨cv, hcv⟩ : ∃ cv : Int, ((M.clock + 1 : Nat) : Int) = cv := ⟨_, rfl⟩
  have hcv1 : (M.clock : Int) + 1 = cv := by omega
  obtain ⟨ck, hckv⟩ : ∃ ck : Int, (M.clock : Int) = ck := ⟨_, rfl⟩
  rw [hckv] at hck1 hcv1
  have hckb : 0 ≤ ck ∧ ck < 4611686018427387904 := by omega
  have hcl : ∀ k, k < n * 3 → (w1.cell? ⟨g, k, none⟩).isSome = true ∧ w1.frozen? ⟨g, k, none⟩ = false := by
    rcases hr.sl with ⟨e, _⟩ | ⟨g', e, hf⟩
    · cases e
    · cases e
      exact fun k hk => hf.there k (by omega)
  have FIN := hidq (fun w3 a' cap' (hb0 : But (fun _ => False) (w1.setCell ⟨b, 1, none⟩ (.int .u64 cv)) w3) (hS3 : SlAt 2 w3 a' cap' L.length (flatI L)) (hF3 : ∀ j, inB a' j → w1.heap.size ≤ j) =>
    mem_laid hM (by rw [hn]; exact hlen) g capr A C hr x L a' cap' (by rw [hckr, hcv]; exact hb0) hS3 hF3 hL _ rfl)
  rw [put_reach, hckr, hcv] at FIN
  have FC := hidq (fun w3 (hb0 : But (fun _ => False) (w1.setCell ⟨b, 1, none⟩ (.int .u64 cv)) w3) => (show (w3.cell? ⟨b, 0, none⟩ = some (.slice (some ⟨g, 0, none⟩) n capr) ∧ w3.cell? ⟨b, 1, none⟩ = some (.int .u64 cv)) ∧ g < w3.heap.size ∧
      (∃ u0, w3.cell? ⟨g, i * 3, none⟩ = some u0) ∧ (∃ u1, w3.cell? ⟨g, i * 3 + 1, none⟩ = some u1) ∧ (∃ u2, w3.cell? ⟨g, i * 3 + 2, none⟩ = some u2) ∧ w3.frozen? ⟨g, i * 3, none⟩ = false ∧ w3.frozen? ⟨g, i * 3 + 1, none⟩ = false ∧ w3.frozen? ⟨g, i * 3 + 2, none⟩ = false from by
    have hb : But (fun k => k = b) w1 w3 := ((But.refl (fun k => k = b) w1).set1 b 1 rfl _).then hb0 (fun _ _ e => e.elim)
    have hc : ∀ k, k < n * 3 → (∃ u, w3.cell? ⟨g, k, none⟩ = some u) ∧ w3.frozen? ⟨g, k, none⟩ = false := fun k hk => by
      rw [hb.cell (p := ⟨g, k, none⟩) hg hgo.2, hb.frozen (p := ⟨g, k, none⟩) hg hgo.2]
      exact ⟨Option.isSome_iff_exists.1 (hcl k hk).1, (hcl k hk).2⟩
    refine ⟨⟨?_, ?_⟩, Nat.lt_of_lt_of_le hg hb.size, (hc _ (by omega)).1, (hc _ (by omega)).1, (hc _ (by omega)).1, (hc _ (by omega)).2, (hc _ (by omega)).2, (hc _ (by omega)).2⟩
    · rw [hb0.cell (p := ⟨b, 0, none⟩) (by rw [World.size_setCell]; exact hbl1) id, World.cell?_setCell_other _ _ _ _ (fun e => by injection e with _ e2; cases e2)]; exact hd
    · rw [hb0.cell (p := ⟨b, 1, none⟩) (by rw [World.size_setCell]; exact hbl1) id, World.cell?_setCell_same' _ _ _ (by rw [hck1]; rfl)]))
  have hC := hidq (fun W (hW : But (fun k => k = b) w1 W) => vclone_any x a cap L.length _ W (HA.out.but hW hab) hL)
  have hnwb : ¬ w.heap.size = b := by omega
  have bx0 : (w1.setCell ⟨b, 1, none⟩ (.int .u64 cv)).drew.cell? ⟨w.heap.size, 0, none⟩ = some (.int .i64 x) := by
    show (w1.setCell ⟨b, 1, none⟩ (.int .u64 cv)).cell? ⟨w.heap.size, 0, none⟩ = _
    rw [World.cell?_setCell_other _ _ _ _ (fun e => by injection e with e1; exact hnwb e1.symm), hB2.cell (p := ⟨w.heap.size, 0, none⟩) (by simp) hOw]; simp
  have bx1 : (w1.setCell ⟨b, 1, none⟩ (.int .u64 cv)).drew.cell? ⟨w.heap.size, 1, none⟩ = some (.slice a L.length cap) := by
    show (w1.setCell ⟨b, 1, none⟩ (.int .u64 cv)).cell? ⟨w.heap.size, 1, none⟩ = _
    rw [World.cell?_setCell_other _ _ _ _ (fun e => by injection e with e1; exact hnwb e1.symm), hB2.cell (p := ⟨w.heap.size, 1, none⟩) (by simp) hOw]; simp
  have hEND := hidq (fun w2 (hM2 : MemAt w2 b (own' (own' O (w.alloc (boxV x (.slice a L.length cap))) w1) w1 w2) (M.put i x L)) (hBx : But (own' O (w.alloc (boxV x (.slice a L.length cap))) w1) w1 w2) => (show MemAt w2 b (own' O w w2) (M.put i x L) ∧ But O w w2 from by
    refine ⟨hM2.own (fun k hk => ?_) (fun k hk => ?_), ((hB1.mono (fun _ _ e => e.elim)).trans hB2).then hBx (fun k hk e => ?_)⟩
    · have hs1 := hB2.size
      rw [World.size_alloc] at hs1
      have hs2 := hBx.size
      rcases hk with (e | e) | e
      · exact .inl e
      · rw [World.size_alloc] at e; exact .inr ⟨by omega, by omega⟩
      · exact .inr ⟨by omega, by omega⟩
    · rcases hk with e | e
      · exact hM2.lt k (.inl (.inl e))
      · exact e.2
    · rcases e with e | e
      · exact e
      · rw [World.size_alloc] at e; omega))
  have HSZ := hidq (show (w1.setCell ⟨b, 1, none⟩ (.int .u64 cv)).drew.heap.size = w1.heap.size from by show (w1.setCell ⟨b, 1, none⟩ (.int .u64 cv)).heap.size = _; rw [World.size_setCell])
  clear hr hM hcl hB2 hB1 hRe hmx hcv hckv hO hab hck hle hn hgo hckr hOw
  go_wp2
  go_region_with (go_at_call 78; refine (hC.out _ ((But.refl (fun k => k = b) w1).set1 b 1 rfl _).drew).mono ?_; rintro e w3 ⟨a', cap', rfl, hS3, hf3, hb3⟩; have HS3 := hidq hS3; rw [HSZ.out] at hf3; have HF3 := hidq hf3; have hbb : But (fun _ => False) (w1.setCell ⟨b, 1, none⟩ (.int .u64 cv)) w3 := ⟨hb3.os, hb3.tape, hb3.output, hb3.size, fun k hk _ => hb3.block k hk⟩; have HBB := hidq hbb; obtain ⟨⟨e0, e1⟩, e2, ⟨u0, e3⟩, ⟨u1, e4⟩, ⟨u2, e5⟩, e6, e7, e8⟩ := FC.out w3 hbb; clear hS3 hf3 hb3 hbb)
  all_goals go_wp2
  all_goals go_ret
  all_goals exact ⟨rfl, hEND.out _ (FIN.out w3 a' cap' HBB.out HS3.out HF3.out).1 (FIN.out w3 a' cap' HBB.out HS3.out HF3.out).2⟩
end Go.Proofs.YtdghgmaoamjnlaaGreat

namespace Go.Proofs.YtdghgmaoamjnlaaGreat
open Go.RowKit Go.Sort

/-- What Write does. -/
def Mem.can (M : Mem) (i v : Int) : Bool := decide (0 ≤ i ∧ i < 1000) && ((M.look i).ver == v)
theorem can_yes {M : Mem} {i : Nat} {v : Int} (h : i < 1000) (hv : (M.cell i).ver = v) : M.can (i : Int) v = true := by
  unfold Mem.can; rw [look_nat, hv]; simp; omega

theorem write_no (b : Nat) (O : Nat → Prop) (M : Mem) (i v x : Int) (s : Value) (w : World) (h : MemAt w b O M) (hno : M.can i v = false) :
    Calls Tryz.prog 206 #[.pointer (some ⟨b, 0, none⟩), .int .i64 i, .int .u64 v, .agg #[.int .i64 x, s]] w fun e w' => e = .returned (.bool false) ∧ Below w.heap.size w w' := by
  have hV := hidq (version_any b O M i _ (h.but (S := fun _ => False) ((But.refl _ _).alloc (boxV x s)) (fun _ _ e => e)))
  by_cases hv : (M.look i).ver = v
  · have hi : i < 0 ∨ 1000 ≤ i := by
      unfold Mem.can at hno
      rw [hv] at hno
      simp at hno
      omega
    rw [hv] at hV
    have hF := hidq (fun W => force_no b i x s W hi)
    clear h hno hv hi
    go_enter Tryz.func206, Tryz.ntmps206
    go_wp2_with (first
      | (go_at_call 212; refine hV.out.mono ?_; rintro e w1 ⟨rfl, hw⟩; replace hw := hw.symm; subst hw)
      | (go_at_call 31; refine (hF.out _).mono ?_; rintro e w2 ⟨rfl, hb2⟩))
    go_ret
    exact ⟨rfl, ((Below.refl _ _).alloc (Nat.le_refl _) _).trans (hb2.mono (by simp))⟩
  · have hvb : ((M.look i).ver == v) = false := by simpa using hv
    generalize (M.look i).ver = u at *
    clear h hno hv
    go_enter Tryz.func206, Tryz.ntmps206
    go_wp2_with (go_at_call 212; refine hV.out.mono ?_; rintro e w1 ⟨rfl, hw⟩; replace hw := hw.symm; subst hw)
    go_ret
    exact ⟨rfl, (Below.refl _ _).alloc (Nat.le_refl _) _⟩

theorem write_yes (b i : Nat) (O : Nat → Prop) (M : Mem) (v x : Int) (a : Option Addr) (cap : Nat) (L : List It) (w : World) (h : MemAt w b O M) (hS : SlAt 2 w a cap L.length (flatI L)) (hO : ∀ j, inB a j → ¬ O j) (hL : L.length ≤ 1000000) (hi : i < 1000) (hck : M.clock < 4611686018427387904) (hv : (M.cell i).ver = v) :
    Calls Tryz.prog 206 #[.pointer (some ⟨b, 0, none⟩), .int .i64 (i : Int), .int .u64 v, .agg #[.int .i64 x, .slice a L.length cap]] w fun e w' => e = .returned (.bool true) ∧ MemAt w' b (own' O w w') (M.put i x L) ∧ But O w w' := by
  have hB1 : But (fun _ => False) w (w.alloc (boxV x (.slice a L.length cap))) := (But.refl _ _).alloc _
  have hV := hidq (version_any b O M (i : Int) _ (h.but hB1 (fun _ _ e => e)))
  rw [look_nat, hv] at hV
  have hF := hidq (force_any b i O M x a cap L _ (h.but hB1 (fun _ _ e => e)) (hS.but hB1 (fun _ _ e => e)) hO hL hi hck)
  clear h hS hO hv
  go_enter Tryz.func206, Tryz.ntmps206
  go_wp2_with (first
    | (go_at_call 212; refine hV.out.mono ?_; rintro e w1 ⟨rfl, hw⟩; replace hw := hw.symm; subst hw)
    | (go_at_call 31; refine hF.out.mono ?_; rintro e w2 ⟨rfl, hM2, hb2⟩))
  go_ret
  refine ⟨rfl, hM2.own (fun k hk => ?_) (fun k hk => ?_), (hB1.mono (fun _ _ e => e.elim)).trans hb2⟩
  · rcases hk with e | e
    · exact .inl e
    · rw [World.size_alloc] at e; exact .inr ⟨by omega, e.2⟩
  · rcases hk with e | e
    · exact hM2.lt k (.inl e)
    · exact e.2

/-- Write, whichever way it goes. -/
def Mem.write (M : Mem) (i v x : Int) (L : List It) : Mem := if M.can i v = true then M.put i.toNat x L else M
theorem write_as {M : Mem} {i v x : Int} {L : List It} : (M.can i v = true ∧ M.write i v x L = M.put i.toNat x L ∧ ∃ k : Nat, i = (k : Int) ∧ k < 1000 ∧ (M.cell k).ver = v) ∨ (M.can i v = false ∧ M.write i v x L = M) := by
  cases h : M.can i v
  · refine .inr ⟨rfl, ?_⟩
    unfold Mem.write; rw [h]; rfl
  · refine .inl ⟨rfl, ?_, ?_⟩
    · unfold Mem.write; rw [h]; rfl
    · unfold Mem.can at h
      simp at h
      refine ⟨i.toNat, by omega, by omega, ?_⟩
      have := h.2
      unfold Mem.look at this
      rw [if_neg (by omega)] at this
      exact this
theorem own'_lt {O : Nat → Prop} {w w' : World} (h : ∀ k, O k → k < w.heap.size) (hs : w.heap.size ≤ w'.heap.size) : ∀ k, own' O w w' k → k < w'.heap.size := fun k hk => by
  rcases hk with e | e
  · exact Nat.lt_of_lt_of_le (h k e) hs
  · exact e.2
theorem write_any (b : Nat) (O : Nat → Prop) (M : Mem) (i v x : Int) (a : Option Addr) (cap : Nat) (L : List It) (w : World) (h : MemAt w b O M) (hS : SlAt 2 w a cap L.length (flatI L)) (hO : ∀ j, inB a j → ¬ O j) (hL : L.length ≤ 1000000) (hck : M.clock < 4611686018427387904) :
    Calls Tryz.prog 206 #[.pointer (some ⟨b, 0, none⟩), .int .i64 i, .int .u64 v, .agg #[.int .i64 x, .slice a L.length cap]] w fun e w' => e = .returned (.bool (M.can i v)) ∧ MemAt w' b (own' O w w') (M.write i v x L) ∧ But O w w' := by
  rcases write_as (M := M) (i := i) (v := v) (x := x) (L := L) with ⟨h1, h2, k, rfl, hk, hv⟩ | ⟨h1, h2⟩
  · rw [h1, h2]
    exact write_yes b k O M v x a cap L w h hS hO hL hk hck hv
  · rw [h1, h2]
    refine (write_no b O M i v x _ w h h1).mono ?_
    rintro e w' ⟨rfl, hb⟩
    exact ⟨rfl, (h.below hb).own (fun k e => .inl e) (own'_lt h.lt hb.size), But.of_below hb⟩
/-- Force, whichever way it goes. -/
def inRange (i : Int) : Bool := decide (0 ≤ i ∧ i < 1000)
def Mem.force (M : Mem) (i x : Int) (L : List It) : Mem := if inRange i = true then M.put i.toNat x L else M
theorem force_all (b : Nat) (O : Nat → Prop) (M : Mem) (i x : Int) (a : Option Addr) (cap : Nat) (L : List It) (w : World) (h : MemAt w b O M) (hS : SlAt 2 w a cap L.length (flatI L)) (hO : ∀ j, inB a j → ¬ O j) (hL : L.length ≤ 1000000) (hck : M.clock < 4611686018427387904) :
    Calls Tryz.prog 31 #[.pointer (some ⟨b, 0, none⟩), .int .i64 i, .agg #[.int .i64 x, .slice a L.length cap]] w fun e w' => e = .returned (.bool (inRange i)) ∧ MemAt w' b (own' O w w') (M.force i x L) ∧ But O w w' := by
  by_cases hr : 0 ≤ i ∧ i < 1000
  · have hd : inRange i = true := decide_eq_true hr
    unfold Mem.force
    rw [hd, if_pos rfl]
    obtain ⟨k, rfl⟩ : ∃ k : Nat, i = (k : Int) := ⟨i.toNat, by omega⟩
    exact force_any b k O M x a cap L w h hS hO hL (by omega) hck
  · have hd : inRange i = false := decide_eq_false hr
    unfold Mem.force
    rw [hd, if_neg (by decide)]
    refine (force_no b i x _ w (by omega)).mono ?_
    rintro e w' ⟨rfl, hb⟩
    exact ⟨rfl, (h.below hb).own (fun k e => .inl e) (own'_lt h.lt hb.size), But.of_below hb⟩
end Go.Proofs.YtdghgmaoamjnlaaGreat

namespace Go.Proofs.YtdghgmaoamjnlaaGreat
open Go.RowKit

theorem into_any (d n : Int) (w : World) (hn : n ≤ 9223372036854775807) :
    Calls Tryz.prog 82 #[.int .i64 d, .int .i64 n] w fun e w' => e = .returned (.int .i64 (into d n)) ∧ w' = w := by
  by_cases h : n < 1
  · rw [into_lo h]
    go_enter Tryz.func82, Tryz.ntmps82
    go_wp2
    go_ret
    exact ⟨rfl, rfl⟩
  · rw [into_hi h]
    have h1 : decide (n < 1) = false := decide_eq_false h
    have hn0 : (n == 0) = false := by simp; omega
    have hn1 : 1 ≤ n := by omega
    by_cases hm : d.tmod n < 0
    · have e1 := tmod_emod_neg hn1 hm
      have e2 := Int.lt_tmod_of_pos d (show 0 < n by omega)
      have hw : wrap64 (d.tmod n + n) = d % n := by unfold wrap64; omega
      have HW : Hid (∀ _ : Unit, wrap64 (d.tmod n + n) = d % n) := fun _ => hw
      clear e1 hw e2
      go_enter Tryz.func82, Tryz.ntmps82
      go_wp2
      go_ret
      exact ⟨by rw [← HW ()]; rfl, rfl⟩
    · have e1 : d.tmod n = d % n := tmod_emod_nonneg hn1 (by omega)
      have HW : Hid (∀ _ : Unit, d.tmod n = d % n) := fun _ => e1
      have hm1 : decide (d.tmod n < 0) = false := decide_eq_false hm
      clear e1
      go_enter Tryz.func82, Tryz.ntmps82
      go_wp2
      go_ret
      exact ⟨by rw [← HW ()]; rfl, rfl⟩

end Go.Proofs.YtdghgmaoamjnlaaGreat

namespace Go.Proofs.YtdghgmaoamjnlaaGreat
open Go.RowKit Go.Sort

/-- An answer. -/
structure Ans where
  ok : Bool
  pri : Nat
  val : Int
  n : Int
def Ans.zero : Ans := ⟨false, 0, 0, 0⟩
abbrev Ans.l (a : Ans) : List Value := [.bool a.ok, .float .f64 a.pri, .int .i64 a.val, .int .i64 a.n]
abbrev Ans.v (a : Ans) : Value := .agg #[.bool a.ok, .float .f64 a.pri, .int .i64 a.val, .int .i64 a.n]

/-- An operation under way. -/
structure Fr where
  kind : Int
  pri : Nat
  val : Int
  d0 : Int
  d1 : Int
  pc : Int
  at_ : Int
  seen : Int
  seg : Int
  total : Int
  empty : Bool
  c0 : CV
  c1 : CV
/-- One that begins. -/
def Fr.of (kind : Int) (pri : Nat) (val d0 d1 : Int) : Fr := ⟨kind, pri, val, d0, d1, 0, 0, 0, 0, 0, false, CV.zero, CV.zero⟩
abbrev Fr.l (F : Fr) (a0 : Option Addr) (k0 : Nat) (a1 : Option Addr) (k1 : Nat) : List Value :=
  [.int .i64 F.kind, .float .f64 F.pri, .int .i64 F.val, .int .i64 F.d0, .int .i64 F.d1, .int .i64 F.pc, .int .i64 F.at_, .int .i64 F.seen, .int .i64 F.seg, .int .i64 F.total, .bool F.empty,
    .int .u64 F.c0.ver, .int .i64 F.c0.n, .slice a0 F.c0.L.length k0, .int .u64 F.c1.ver, .int .i64 F.c1.n, .slice a1 F.c1.L.length k1]
/-- It lies at block fb; P: the blocks that it owns. -/
structure FrAt (w : World) (fb : Nat) (P : Nat → Prop) (F : Fr) : Prop where
  ob : P fb
  lt : ∀ k, P k → k < w.heap.size
  box : ∃ a0 k0 a1 k1, BoxAt w fb (F.l a0 k0 a1 k1) ∧ SlAt 2 w a0 k0 F.c0.L.length (flatI F.c0.L) ∧ SlAt 2 w a1 k1 F.c1.L.length (flatI F.c1.L) ∧ (∀ j, inB a0 j → P j ∧ j ≠ fb) ∧ (∀ j, inB a1 j → P j ∧ j ≠ fb)
theorem FrAt.but {w w' : World} {fb : Nat} {P S : Nat → Prop} {F : Fr} (h : FrAt w fb P F) (hb : But S w w') (hS : ∀ k, P k → ¬ S k) : FrAt w' fb P F := by
  obtain ⟨a0, k0, a1, k1, h1, h2, h3, h4, h5⟩ := h.box
  exact ⟨h.ob, fun k hk => Nat.lt_of_lt_of_le (h.lt k hk) hb.size, a0, k0, a1, k1, h1.but hb (hS fb h.ob), h2.but hb (fun j hj => hS j (h4 j hj).1), h3.but hb (fun j hj => hS j (h5 j hj).1), h4, h5⟩
theorem FrAt.below {w w' : World} {fb : Nat} {P : Nat → Prop} {F : Fr} (h : FrAt w fb P F) (hb : Below w.heap.size w w') : FrAt w' fb P F := h.but (S := fun _ => False) (But.of_below hb) (fun _ _ e => e)

/-- What a machine's step does: the memory, the operation, the answer, is it done? -/
abbrev StepFn := Mem → Fr → Mem × Fr × Ans × Bool
/-- Some blocks, and new ones. -/
def Grown (O : Nat → Prop) (w w' : World) (O' : Nat → Prop) : Prop := ∀ k, O' k → O k ∨ (w.heap.size ≤ k ∧ k < w'.heap.size)
theorem Grown.refl (O : Nat → Prop) (w w' : World) : Grown O w w' O := fun _ h => .inl h
theorem Grown.trans {O O' O2 : Nat → Prop} {w w1 w2 : World} (h : Grown O w w1 O') (k : Grown O' w1 w2 O2) (h1 : w.heap.size ≤ w1.heap.size) (h2 : w1.heap.size ≤ w2.heap.size) : Grown O w w2 O2 := fun j hj => by
  rcases k j hj with e | e
  · rcases h j e with e | e
    · exact .inl e
    · exact .inr ⟨e.1, by omega⟩
  · exact .inr ⟨by omega, e.2⟩
theorem Grown.own' (O : Nat → Prop) (w w' : World) : Grown O w w' (own' O w w') := fun _ h => h
/-- How a step ends. -/
def StepEnd (b fb : Nat) (O P : Nat → Prop) (r : Mem × Fr × Ans × Bool) (w : World) (e : Ending) (w' : World) : Prop :=
  e = .returned (.tuple #[r.2.2.1.v, .bool r.2.2.2]) ∧ ∃ O' P', MemAt w' b O' r.1 ∧ FrAt w' fb P' r.2.1 ∧ (∀ k, O' k → ¬ P' k) ∧ Grown O w w' O' ∧ Grown P w w' P' ∧ But (fun k => O k ∨ P k) w w'
/-- Function f is a machine's step. -/
def IsStep (f : FuncId) (recv : Value) (G : Mem → Fr → Prop) (st : StepFn) : Prop :=
  ∀ (w : World) (b fb : Nat) (O P : Nat → Prop) (M : Mem) (F : Fr), MemAt w b O M → FrAt w fb P F → (∀ k, O k → ¬ P k) → G M F → M.clock < 4611686018427387904 →
    Calls Tryz.prog f #[recv, .pointer (some ⟨b, 0, none⟩), .pointer (some ⟨fb, 0, none⟩)] w (StepEnd b fb O P (st M F) w)
end Go.Proofs.YtdghgmaoamjnlaaGreat

namespace Go.Proofs.YtdghgmaoamjnlaaGreat
open Go.RowKit Go.Sort

/-- An event. -/
abbrev evV (t : Nat) (F : Fr) (A : Ans) (d : Bool) : Value := .agg #[.int .i64 (t : Int), .int .i64 F.kind, .float .f64 F.pri, .int .i64 F.val, .int .i64 F.d0, .int .i64 F.d1, .bool d, .bool A.ok, .float .f64 A.pri, .int .i64 A.val, .int .i64 A.n]
/-- How a pick ends. -/
def PickEnd (eb : Nat) (kind param : Int) (T : TypeId) (mv : Value) (mb : Nat) (Q : Nat → Option Nat) (closed : Bool) (steps : Nat) (t fb : Nat) (O P : Nat → Prop) (r : Mem × Fr × Ans × Bool) (w : World) (e : Ending) (w' : World) : Prop :=
  e = .returned (.tuple #[evV t r.2.1 r.2.2.1 r.2.2.2, .bool true]) ∧ BoxAt w' eb (ecells kind param T mv mb (if r.2.2.2 = true then qset Q t none else Q) closed ((steps + 1 : Nat) : Int)) ∧
    ∃ O' P', MemAt w' mb O' r.1 ∧ FrAt w' fb P' r.2.1 ∧ (∀ k, O' k → ¬ P' k) ∧ Grown O w w' O' ∧ Grown P w w' P' ∧ But (fun k => O k ∨ P k ∨ k = eb) w w'
end Go.Proofs.YtdghgmaoamjnlaaGreat

namespace Go.Proofs.YtdghgmaoamjnlaaGreat
open Go.RowKit Go.Sort

theorem load_ans (W : World) (ab : Nat) (A : Ans) (h : BoxAt W ab A.l) : (loadVar 66 ⟨ab, 0, none⟩).run Tryz.prog W = .ok A.v W := by
  have q0 := (h.get 0 _ rfl).1
  have q1 := (h.get 1 _ rfl).1
  have q2 := (h.get 2 _ rfl).1
  have q3 := (h.get 3 _ rfl).1
  simp [loadVar, go_sem, q0, q1, q2, q3]

theorem ret_ans {fn : Func} {p u : Tmp} (h : fn.results = #[.cell p 66, .tmp u]) {a : Act} {W : World} {ab : Nat} {A : Ans} {d : Bool} {R : Ending → World → Prop}
    (hB : BoxAt W ab A.l) (hp : a.tmps.getD p undef = .pointer (some ⟨ab, 0, none⟩)) (hu : a.tmps.getD u undef = .bool d) (hd : a.defers = [])
    (hR : R (.returned (.tuple #[A.v, .bool d])) W) : bodyPost Tryz.prog fn R .ret a W := by
  refine bodyPost_ret (v := .tuple #[A.v, .bool d]) ?_ hd hR
  rw [results_cell_tmp h, hp, hu]
  have q0 := (hB.get 0 _ rfl).1
  have q1 := (hB.get 1 _ rfl).1
  have q2 := (hB.get 2 _ rfl).1
  have q3 := (hB.get 3 _ rfl).1
  simp [asAddr, go_sem, q0, q1, q2, q3, Result.andThen]

/-- Some cells of a block laid anew, one behind the other. -/
def setBox (w : World) (b : Nat) : List (Nat × Value) → World
  | [] => w
  | p :: l => setBox (w.setCell ⟨b, p.1, none⟩ p.2) b l
theorem setBox_but (b : Nat) : ∀ (s : List (Nat × Value)) (w : World), But (fun j => j = b) w (setBox w b s)
  | [], w => But.refl _ w
  | p :: l, w => ((But.refl (fun j => j = b) w).set1 b p.1 rfl p.2).trans (setBox_but b l _)
theorem setBox_size (b : Nat) : ∀ (s : List (Nat × Value)) (w : World), (setBox w b s).heap.size = w.heap.size
  | [], _ => rfl
  | _ :: l, _ => (setBox_size b l _).trans (World.size_setCell _ _ _)
theorem setBox_box {b : Nat} : ∀ (s : List (Nat × Value)) {w : World} {l : List Value}, BoxAt w b l → BoxAt (setBox w b s) b (s.foldl (fun l p => l.set p.1 p.2) l)
  | [], _, _, h => h
  | p :: s, _, _, h => setBox_box s (h.set p.1 p.2)
abbrev Ans.s (A : Ans) : List (Nat × Value) := [(0, .bool A.ok), (1, .float .f64 A.pri), (2, .int .i64 A.val), (3, .int .i64 A.n)]
theorem set_ans (A A0 : Ans) : A.s.foldl (fun l p => l.set p.1 p.2) A0.l = A.l := rfl

/-- A step whose last writes are in its frame and in its answer. -/
theorem stepEnd_of {w w2 : World} {b fb ab : Nat} {O P O' : Nat → Prop} {M' : Mem} {F' : Fr} {A A0 : Ans} {d : Bool} {l : List Value} (s : List (Nat × Value)) {a0 a1 : Option Addr} {k0 k1 : Nat}
    (hM : MemAt w2 b O' M') (hO : Grown O w w2 O') (hbut : But (fun k => O k ∨ P k) w w2) (hP : P fb) (hB : BoxAt w2 fb l) (hl : s.foldl (fun l p => l.set p.1 p.2) l = F'.l a0 k0 a1 k1)
    (hA : BoxAt w2 ab A0.l) (hab : w.heap.size ≤ ab) (hOa : ¬ O' ab) (hOf : ¬ O' fb) (hfa : fb ≠ ab)
    (s0 : SlAt 2 w2 a0 k0 F'.c0.L.length (flatI F'.c0.L)) (n0 : ∀ j, inB a0 j → j ≠ fb ∧ j ≠ ab ∧ ¬ O' j ∧ (P j ∨ w.heap.size ≤ j))
    (s1 : SlAt 2 w2 a1 k1 F'.c1.L.length (flatI F'.c1.L)) (n1 : ∀ j, inB a1 j → j ≠ fb ∧ j ≠ ab ∧ ¬ O' j ∧ (P j ∨ w.heap.size ≤ j)) :
    BoxAt (setBox (setBox w2 fb s) ab A.s) ab A.l ∧ StepEnd b fb O P (M', F', A, d) w (.returned (.tuple #[A.v, .bool d])) (setBox (setBox w2 fb s) ab A.s) := by
  have b1 := setBox_but fb s w2
  have b2 := setBox_but ab A.s (setBox w2 fb s)
  have hz : (setBox (setBox w2 fb s) ab A.s).heap.size = w2.heap.size := by rw [setBox_size, setBox_size]
  have hk : But (fun j => j = fb ∨ j = ab) w2 (setBox (setBox w2 fb s) ab A.s) := (b1.mono (fun _ _ e => .inl e)).trans (b2.mono (fun _ _ e => .inr e))
  have hB9 := (setBox_box s hB).but b2 hfa
  rw [hl] at hB9
  have hA9 : BoxAt (setBox (setBox w2 fb s) ab A.s) ab A.l := setBox_box A.s (hA.but b1 (fun e => hfa e.symm))
  generalize setBox (setBox w2 fb s) ab A.s = W9 at *
  refine ⟨hA9, rfl, O', fun k => k = fb ∨ inB a0 k ∨ inB a1 k, hM.but hk (fun j hj e => ?_), ⟨.inl rfl, ?_, a0, k0, a1, k1, hB9, s0.but hk (fun j hj e => ?_), s1.but hk (fun j hj e => ?_), fun j hj => ⟨.inr (.inl hj), (n0 j hj).1⟩, fun j hj => ⟨.inr (.inr hj), (n1 j hj).1⟩⟩, ?_, ?_, ?_, ?_⟩
  · rcases e with rfl | rfl
    · exact hOf hj
    · exact hOa hj
  · rintro j (rfl | hj | hj)
    · rw [hz]; exact hB.lt
    · rw [hz]; exact s0.lt j hj
    · rw [hz]; exact s1.lt j hj
  · rcases e with rfl | rfl
    · exact (n0 _ hj).1 rfl
    · exact (n0 _ hj).2.1 rfl
  · rcases e with rfl | rfl
    · exact (n1 _ hj).1 rfl
    · exact (n1 _ hj).2.1 rfl
  · rintro j hj (rfl | e | e)
    · exact hOf hj
    · exact (n0 j e).2.2.1 hj
    · exact (n1 j e).2.2.1 hj
  · intro j hj
    rcases hO j hj with e | e
    · exact .inl e
    · exact .inr ⟨e.1, by omega⟩
  · rintro j (rfl | hj | hj)
    · exact .inl hP
    · rcases (n0 j hj).2.2.2 with e | e
      · exact .inl e
      · exact .inr ⟨e, by rw [hz]; exact s0.lt j hj⟩
    · rcases (n1 j hj).2.2.2 with e | e
      · exact .inl e
      · exact .inr ⟨e, by rw [hz]; exact s1.lt j hj⟩
  · exact hbut.then hk (fun j hj e => by rcases e with rfl | rfl; exact .inr hP; omega)

/-- The same, where an order was drawn between the two. -/
theorem stepEnd_ofN {w w2 : World} {b fb ab : Nat} {O P O' : Nat → Prop} {M' : Mem} {F' : Fr} {A A0 : Ans} {d : Bool} {l : List Value} (n : Nat) (s : List (Nat × Value)) {a0 a1 : Option Addr} {k0 k1 : Nat}
    (hM : MemAt w2 b O' M') (hO : Grown O w w2 O') (hbut : But (fun k => O k ∨ P k) w w2) (hP : P fb) (hB : BoxAt w2 fb l) (hl : s.foldl (fun l p => l.set p.1 p.2) l = F'.l a0 k0 a1 k1)
    (hA : BoxAt w2 ab A0.l) (hab : w.heap.size ≤ ab) (hOa : ¬ O' ab) (hOf : ¬ O' fb) (hfa : fb ≠ ab)
    (s0 : SlAt 2 w2 a0 k0 F'.c0.L.length (flatI F'.c0.L)) (n0 : ∀ j, inB a0 j → j ≠ fb ∧ j ≠ ab ∧ ¬ O' j ∧ (P j ∨ w.heap.size ≤ j))
    (s1 : SlAt 2 w2 a1 k1 F'.c1.L.length (flatI F'.c1.L)) (n1 : ∀ j, inB a1 j → j ≠ fb ∧ j ≠ ab ∧ ¬ O' j ∧ (P j ∨ w.heap.size ≤ j)) :
    BoxAt (setBox ((setBox w2 fb s).drewN n) ab A.s) ab A.l ∧ StepEnd b fb O P (M', F', A, d) w (.returned (.tuple #[A.v, .bool d])) (setBox ((setBox w2 fb s).drewN n) ab A.s) := by
  have b1 := setBox_but fb s w2
  have hz : ((setBox w2 fb s).drewN n).heap.size = w2.heap.size := setBox_size fb s w2
  have hk : But (fun j => j = fb) w2 ((setBox w2 fb s).drewN n) := b1.drewN n
  have hB9 := (setBox_box s hB).drewN n
  rw [hl] at hB9
  have hA9 := hA.but hk (fun e => hfa e.symm)
  have hO9 : Grown O w ((setBox w2 fb s).drewN n) O' := fun k h => by rcases hO k h with e | e; exact .inl e; exact .inr ⟨e.1, by rw [hz]; exact e.2⟩
  exact stepEnd_of [] (hM.but hk (fun k h e => hOf (e ▸ h))) hO9 (hbut.then hk (fun j _ e => .inr (e ▸ hP))) hP hB9 rfl hA9 hab hOa hOf hfa (s0.but hk (fun j hj => (n0 j hj).1)) n0 (s1.but hk (fun j hj => (n1 j hj).1)) n1

/-- What a read into a frame comes to. -/
def RdEnd (b fb : Nat) (O P : Nat → Prop) (M : Mem) (F' : Fr) (w : World) (e : Ending) (w' : World) : Prop :=
  e = .returned (.tuple #[]) ∧ ∃ P', MemAt w' b O M ∧ FrAt w' fb P' F' ∧ (∀ k, O k → ¬ P' k) ∧ Grown P w w' P' ∧ But P w w'
theorem rdEnd_of {w w2 : World} {b fb : Nat} {O P : Nat → Prop} {M : Mem} {F' : Fr} {l : List Value} (s : List (Nat × Value)) {a0 a1 : Option Addr} {k0 k1 : Nat}
    (hM : MemAt w2 b O M) (hbut : But P w w2) (hP : P fb) (hB : BoxAt w2 fb l) (hl : s.foldl (fun l p => l.set p.1 p.2) l = F'.l a0 k0 a1 k1) (hOf : ¬ O fb)
    (s0 : SlAt 2 w2 a0 k0 F'.c0.L.length (flatI F'.c0.L)) (n0 : ∀ j, inB a0 j → j ≠ fb ∧ ¬ O j ∧ (P j ∨ w.heap.size ≤ j))
    (s1 : SlAt 2 w2 a1 k1 F'.c1.L.length (flatI F'.c1.L)) (n1 : ∀ j, inB a1 j → j ≠ fb ∧ ¬ O j ∧ (P j ∨ w.heap.size ≤ j)) :
    RdEnd b fb O P M F' w (.returned (.tuple #[])) (setBox w2 fb s) := by
  have hk := setBox_but fb s w2
  have hz := setBox_size fb s w2
  have hB9 := setBox_box s hB
  rw [hl] at hB9
  generalize setBox w2 fb s = W9 at *
  refine ⟨rfl, fun k => k = fb ∨ inB a0 k ∨ inB a1 k, hM.but hk (fun j hj e => hOf (e ▸ hj)), ⟨.inl rfl, ?_, a0, k0, a1, k1, hB9, s0.but hk (fun j hj e => (n0 j hj).1 e), s1.but hk (fun j hj e => (n1 j hj).1 e), fun j hj => ⟨.inr (.inl hj), (n0 j hj).1⟩, fun j hj => ⟨.inr (.inr hj), (n1 j hj).1⟩⟩, ?_, ?_, ?_⟩
  · rintro j (rfl | hj | hj)
    · rw [hz]; exact hB.lt
    · rw [hz]; exact s0.lt j hj
    · rw [hz]; exact s1.lt j hj
  · rintro j hj (rfl | e | e)
    · exact hOf hj
    · exact (n0 j e).2.1 hj
    · exact (n1 j e).2.1 hj
  · rintro j (rfl | hj | hj)
    · exact .inl hP
    · rcases (n0 j hj).2.2 with e | e
      · exact .inl e
      · exact .inr ⟨e, by rw [hz]; exact s0.lt j hj⟩
    · rcases (n1 j hj).2.2 with e | e
      · exact .inl e
      · exact .inr ⟨e, by rw [hz]; exact s1.lt j hj⟩
  · exact hbut.then hk (fun j _ e => e ▸ hP)

/-- A step within a step: the answer is handed on. -/
theorem stepEnd_on {w W1 w2 : World} {b fb ab : Nat} {O P : Nat → Prop} {r : Mem × Fr × Ans × Bool} {A0 : Ans} {e : Ending} (hb : Below w.heap.size w W1) (hO : ∀ k, O k → k < w.heap.size) (hP : ∀ k, P k → k < w.heap.size)
    (h : StepEnd b fb O P r W1 e w2) (hA : BoxAt W1 ab A0.l) (hab : w.heap.size ≤ ab) :
    BoxAt (setBox w2 ab r.2.2.1.s) ab r.2.2.1.l ∧ StepEnd b fb O P r w (.returned (.tuple #[r.2.2.1.v, .bool r.2.2.2])) (setBox w2 ab r.2.2.1.s) := by
  obtain ⟨rfl, O', P', h1, h2, h3, h4, h5, h6⟩ := h
  have b2 := setBox_but ab r.2.2.1.s w2
  have hz := setBox_size ab r.2.2.1.s w2
  have hal := hA.lt
  have hs := hb.size
  have hnO : ¬ O' ab := fun e => by
    rcases h4 _ e with e | e
    · have := hO _ e; omega
    · omega
  have hnP : ¬ P' ab := fun e => by
    rcases h5 _ e with e | e
    · have := hP _ e; omega
    · omega
  refine ⟨setBox_box r.2.2.1.s (hA.but h6 (fun e => by rcases e with e | e; have := hO _ e; omega; have := hP _ e; omega)), rfl, O', P', h1.but b2 (fun k hk e => hnO (e ▸ hk)), h2.but b2 (fun k hk e => hnP (e ▸ hk)), h3, ?_, ?_, ?_⟩
  · intro k hk
    rcases h4 k hk with e | e
    · exact .inl e
    · exact .inr ⟨by omega, by rw [hz]; exact e.2⟩
  · intro k hk
    rcases h5 k hk with e | e
    · exact .inl e
    · exact .inr ⟨by omega, by rw [hz]; exact e.2⟩
  · exact ((But.of_below hb).trans h6).then b2 (fun k hk e => by omega)
end Go.Proofs.YtdghgmaoamjnlaaGreat

namespace Go.Proofs.YtdghgmaoamjnlaaGreat
open Go.RowKit Go.Sort

/-- An operation that nobody disturbs, up to so many steps. -/
def alone (st : StepFn) : Nat → Mem → Fr → Mem × Ans × Bool
  | 0, M, _ => (M, Ans.zero, false)
  | n + 1, M, F => if (st M F).2.2.2 = true then ((st M F).1, (st M F).2.2.1, true) else alone st n (st M F).1 (st M F).2.1
theorem alone_done {st : StepFn} {n : Nat} {M M' : Mem} {F F' : Fr} {A : Ans} (h : st M F = (M', F', A, true)) : alone st (n + 1) M F = (M', A, true) := by
  unfold alone; rw [h]; rfl
theorem alone_on {st : StepFn} {n : Nat} {M M' : Mem} {F F' : Fr} {A : Ans} (h : st M F = (M', F', A, false)) : alone st (n + 1) M F = alone st n M' F' := by
  conv => lhs; unfold alone
  rw [h]; rfl

/-- A machine whose steps keep to what is asked of them. -/
structure Fine (G : Mem → Fr → Prop) (st : StepFn) : Prop where
  on : ∀ M F, G M F → (st M F).2.2.2 = false → G (st M F).1 (st M F).2.1
  clock : ∀ M F, (st M F).1.clock ≤ M.clock + 1

/-- How it ends. -/
def AEnd (b : Nat) (O : Nat → Prop) (r : Mem × Ans × Bool) (w : World) (e : Ending) (w' : World) : Prop :=
  e = .returned (.tuple #[r.2.1.v, .bool r.2.2]) ∧ ∃ O', MemAt w' b O' r.1 ∧ Grown O w w' O' ∧ But O w w'

/-- A machine in a box, a memory beside it, all made since w. -/
structure St (w W : World) (sb : Nat) (l : List Value) (mb : Nat) (O : Nat → Prop) (M : Mem) : Prop where
  mem : MemAt W mb O M
  own : ∀ k, O k → w.heap.size ≤ k ∧ k ≠ sb
  box : BoxAt W sb l
  low : Below w.heap.size w W
section
variable {w W W' : World} {sb mb : Nat} {l : List Value} {O O' : Nat → Prop} {M M' : Mem}
theorem St.call (h : St w W sb l mb O M) (h1 : MemAt W' mb O' M') (h2 : Grown O W W' O') (h3 : But O W W') : St w W' sb l mb O' M' := by
  refine ⟨h1, fun k hk => ?_, h.box.but h3 (fun e => (h.own _ e).2 rfl), h.low.trans (h3.below h.low.size (fun k e => (h.own k e).1))⟩
  rcases h2 k hk with e | e
  · exact h.own k e
  · have := h.box.lt; have := h.low.size; omega
theorem St.below (h : St w W sb l mb O M) (hb : Below W.heap.size W W') : St w W' sb l mb O M :=
  ⟨h.mem.below hb, h.own, h.box.below hb, h.low.trans (hb.mono h.low.size)⟩
theorem St.alloc (h : St w W sb l mb O M) (o : Obj) : St w (W.alloc o) sb l mb O M := h.below ((Below.refl _ _).alloc (Nat.le_refl _) o)
end

end Go.Proofs.YtdghgmaoamjnlaaGreat

namespace Go.Proofs.YtdghgmaoamjnlaaGreat.Reg
open Go

/-- What an operation comes to: a value, or a call that returns. -/
def Outcome (P : Program) (K : Value → World → Prop) : Result Next → Prop
  | .ok (.value v) w' => K v w'
  | .ok .skip w' => K undef w'
  | .ok (.enter f args) w' => Calls P f args w' fun e w'' => ∃ v, e = .returned v ∧ K v w''
  | _ => False

theorem outcome_value {P : Program} {K : Value → World → Prop} {v : Value} {w : World} (h : K v w) : Outcome P K (.ok (.value v) w) := h

theorem outcome_wp {P : Program} {o : Oper} {a : Act} {w : World} {K : Value → World → Prop} {N : Act → World → Prop} {Q : Exit → Act → World → Prop}
    (h : Outcome P K ((execOp a.eval o).run P w)) (hn : ∀ v w', K v w' → N (a.put o.dst v) w') : o.wp P a w N Q := by
  unfold Oper.wp
  generalize (execOp a.eval o).run P w = r at *
  cases r with
  | ok n w' =>
    cases n <;> simp only [Outcome, Oper.upon] at h ⊢
    case value v => exact hn _ _ h
    case skip => exact hn _ _ h
    case enter f args =>
      refine Calls.mono h ?_
      rintro e w'' ⟨v, rfl, hk⟩
      exact hn _ _ hk
  | halt x w' => simp [Outcome] at h

/-- The edges lead back, and no two operations write one slot; every slot is there. -/
def fineB (ops : Array Oper) (n : Nat) : Bool :=
  (List.range ops.size).all fun i => match ops[i]? with
    | none => true
    | some o => o.after.all (fun e => decide (e.on < i) || !Region.binds .any e) &&
      (match o.dst with
       | none => true
       | some t => decide (t < n) && (List.range ops.size).all fun j => decide (j = i) || ((ops[j]?).bind (·.dst)) != some t)

theorem fine_back {ops : Array Oper} {n i : Nat} {o : Oper} (h : fineB ops n = true) (ho : ops[i]? = some o) : ∀ e ∈ o.after, Region.binds .any e = true → e.on < i := by
  have hi : i < ops.size := by
    rcases Nat.lt_or_ge i ops.size with h' | h'
    · exact h'
    · rw [Array.getElem?_eq_none h'] at ho; cases ho
  have := List.all_eq_true.1 h i (List.mem_range.2 hi)
  simp only [ho, Bool.and_eq_true] at this
  intro e he hb
  have h2 := this.1
  rw [Array.all_eq_true_iff_forall_mem] at h2
  have h3 := h2 e he
  rw [hb] at h3
  simpa using h3

theorem fine_dst {ops : Array Oper} {n i j t : Nat} {o o' : Oper} (h : fineB ops n = true) (ho : ops[i]? = some o) (ho' : ops[j]? = some o') (hd : o.dst = some t) (hd' : o'.dst = some t) : j = i := by
  have hi : i < ops.size := by
    rcases Nat.lt_or_ge i ops.size with h' | h'
    · exact h'
    · rw [Array.getElem?_eq_none h'] at ho; cases ho
  have hj : j < ops.size := by
    rcases Nat.lt_or_ge j ops.size with h' | h'
    · exact h'
    · rw [Array.getElem?_eq_none h'] at ho'; cases ho'
  have := List.all_eq_true.1 h i (List.mem_range.2 hi)
  simp only [ho, hd, Bool.and_eq_true] at this
  have h2 := List.all_eq_true.1 this.2.2 j (List.mem_range.2 hj)
  simp only [ho', Option.bind_some, hd'] at h2
  simpa using h2

theorem fine_lt {ops : Array Oper} {n i t : Nat} {o : Oper} (h : fineB ops n = true) (ho : ops[i]? = some o) (hd : o.dst = some t) : t < n := by
  have hi : i < ops.size := by
    rcases Nat.lt_or_ge i ops.size with h' | h'
    · exact h'
    · rw [Array.getElem?_eq_none h'] at ho; cases ho
  have := List.all_eq_true.1 h i (List.mem_range.2 hi)
  simp only [ho, hd, Bool.and_eq_true] at this
  simpa using this.2.1

section
variable (P : Program) (ops : Array Oper) (a0 : Act) (R : Nat → Value → World → Prop) (Pres : World → World → Prop) (Inv : Array Bool → World → Prop)

/-- Where the operations that are listed have come up: their slots have their properties, the others are as at the start. -/
structure Fits (L : Array Bool) (a : Act) (w : World) : Prop where
  defers : a.defers = a0.defers
  size : a.tmps.size = a0.tmps.size
  lsize : L.size = ops.size
  val : ∀ j o t, ops[j]? = some o → L.getD j false = true → o.dst = some t → R j (a.eval (.tmp t)) w
  old : ∀ t, (∀ j o, ops[j]? = some o → L.getD j false = true → o.dst ≠ some t) → a.eval (.tmp t) = a0.eval (.tmp t)
  closed : ∀ j o, ops[j]? = some o → L.getD j false = true → ∀ e ∈ o.after, Region.binds .any e = true → L.getD e.on false = true

/-- The slots as a plain function. -/
structure At (L : Array Bool) (ev : Operand → Value) (w : World) : Prop where
  val : ∀ j o t, ops[j]? = some o → L.getD j false = true → o.dst = some t → R j (ev (.tmp t)) w
  old : ∀ t, (∀ j o, ops[j]? = some o → L.getD j false = true → o.dst ≠ some t) → ev (.tmp t) = a0.eval (.tmp t)
  closed : ∀ j o, ops[j]? = some o → L.getD j false = true → ∀ e ∈ o.after, Region.binds .any e = true → L.getD e.on false = true
  const : ∀ v, ev (.const v) = v
  func : ∀ f, ev (.func f) = .func (.func f) #[] #[]
  global : ∀ g, ev (.global g) = .pointer (some ⟨g, 0, none⟩)

/-- What is asked of one operation. -/
def StepAt (i : Nat) (o : Oper) : Prop :=
  ∀ (L : Array Bool) (ev : Operand → Value) (w : World), Inv L w → L.getD i true = false → (∀ e ∈ o.after, Region.binds .any e = true → L.getD e.on false = true) → At ops a0 R L ev w →
    match o.guard with
    | none => Outcome P (fun v w' => R i v w' ∧ Pres w w' ∧ Inv (L.setIfInBounds i true) w') ((execOp ev o).run P w)
    | some (g, want) => (∃ og t b, ops[g]? = some og ∧ og.dst = some t ∧ ev (.tmp t) = .bool b ∧
        if b = want then Outcome P (fun v w' => R i v w' ∧ Pres w w' ∧ Inv (L.setIfInBounds i true) w') ((execOp ev o).run P w)
        else R i undef w ∧ Inv (L.setIfInBounds i true) w) ∨
      ∃ og t, ops[g]? = some og ∧ og.dst = some t ∧ ev (.tmp t) = undef ∧ R i undef w ∧ Inv (L.setIfInBounds i true) w

def AllSteps : Nat → List Oper → Prop
  | _, [] => True
  | k, o :: l => StepAt P ops a0 R Pres Inv k o ∧ AllSteps (k + 1) l
end

section
variable {P : Program} {ops : Array Oper} {a0 : Act} {R : Nat → Value → World → Prop} {Pres : World → World → Prop} {Inv : Array Bool → World → Prop}

theorem StepAt.plain {i : Nat} {o : Oper} (hg : o.guard = none)
    (h : ∀ (L : Array Bool) (ev : Operand → Value) (w : World), Inv L w → L.getD i true = false → (∀ e ∈ o.after, Region.binds .any e = true → L.getD e.on false = true) → At ops a0 R L ev w →
      Outcome P (fun v w' => R i v w' ∧ Pres w w' ∧ Inv (L.setIfInBounds i true) w') ((execOp ev o).run P w)) : StepAt P ops a0 R Pres Inv i o := by
  intro L ev w hI hk hp hA
  rw [hg]; exact h L ev w hI hk hp hA
theorem StepAt.guarded {i g : Nat} {want : Bool} {o : Oper} (hg : o.guard = some (g, want))
    (h : ∀ (L : Array Bool) (ev : Operand → Value) (w : World), Inv L w → L.getD i true = false → (∀ e ∈ o.after, Region.binds .any e = true → L.getD e.on false = true) → At ops a0 R L ev w →
      ∃ og t b, ops[g]? = some og ∧ og.dst = some t ∧ ev (.tmp t) = .bool b ∧
        if b = want then Outcome P (fun v w' => R i v w' ∧ Pres w w' ∧ Inv (L.setIfInBounds i true) w') ((execOp ev o).run P w)
        else R i undef w ∧ Inv (L.setIfInBounds i true) w) : StepAt P ops a0 R Pres Inv i o := by
  intro L ev w hI hk hp hA
  rw [hg]; exact .inl (h L ev w hI hk hp hA)
/-- A guard that is not reached itself. -/
theorem StepAt.unreached {i g : Nat} {want : Bool} {o : Oper} (hg : o.guard = some (g, want))
    (h : ∀ (L : Array Bool) (ev : Operand → Value) (w : World), Inv L w → L.getD i true = false → (∀ e ∈ o.after, Region.binds .any e = true → L.getD e.on false = true) → At ops a0 R L ev w →
      ∃ og t, ops[g]? = some og ∧ og.dst = some t ∧ ev (.tmp t) = undef ∧ R i undef w ∧ Inv (L.setIfInBounds i true) w) : StepAt P ops a0 R Pres Inv i o := by
  intro L ev w hI hk hp hA
  rw [hg]; exact .inr (h L ev w hI hk hp hA)
/-- What is not there says neither yes nor no. -/
theorem yielded_undef {ops : Array Oper} {tmps : Array Value} {g t : Nat} {og : Oper} (hog : ops[g]? = some og) (hd : og.dst = some t) (h : tmps.getD t undef = undef) : yielded ops tmps g = none := by
  unfold yielded
  rw [hog]
  simp only [Option.bind_some, hd]
  rw [Array.getD_eq_getD_getElem?] at h
  cases hx : tmps[t]? with
  | none => rfl
  | some x => rw [hx] at h; simp only [Option.getD_some] at h; subst h; rfl

theorem AllSteps.at : ∀ (l : List Oper) (k : Nat), AllSteps P ops a0 R Pres Inv k l → ∀ (i : Nat) (o : Oper), l[i]? = some o → StepAt P ops a0 R Pres Inv (k + i) o
  | [], _, _, i, o, h => by simp at h
  | x :: l, k, hs, 0, o, h => by simp at h; subst h; exact hs.1
  | x :: l, k, hs, i + 1, o, h => by
    have := AllSteps.at l (k + 1) hs.2 i o (by simpa using h)
    rw [show k + (i + 1) = k + 1 + i by omega]; exact this

theorem Fits.at {L : Array Bool} {a : Act} {w : World} (h : Fits ops a0 R L a w) : At ops a0 R L a.eval w :=
  ⟨h.val, h.old, h.closed, fun _ => rfl, fun _ => rfl, fun _ => rfl⟩

theorem eval_put_same {a : Act} {t : Nat} {v : Value} (h : t < a.tmps.size) : (a.put (some t) v).eval (.tmp t) = v := by
  simp [Act.put, Act.eval, h]
theorem eval_put_other {a : Act} {t u : Nat} {v : Value} (h : t ≠ u) : (a.put (some t) v).eval (.tmp u) = a.eval (.tmp u) := by
  simp [Act.put, Act.eval, Array.getElem?_setIfInBounds_ne h]
theorem size_put {a : Act} {d : Option Tmp} {v : Value} : (a.put d v).tmps.size = a.tmps.size := by
  cases d <;> simp [Act.put]
theorem defers_put {a : Act} {d : Option Tmp} {v : Value} : (a.put d v).defers = a.defers := by
  cases d <;> simp [Act.put]

theorem getD_set_of {L : Array Bool} {i j : Nat} (h : (L.setIfInBounds i true).getD j false = true) : j = i ∨ L.getD j false = true := by
  by_cases e : i = j
  · exact .inl e.symm
  · rw [getD_set_ne false e] at h; exact .inr h

theorem Fits.put {L : Array Bool} {a : Act} {w w' : World} {i : Nat} {o : Oper} {v : Value} (hf : fineB ops a0.tmps.size = true) (ho : ops[i]? = some o)
    (hall : ∀ e ∈ o.after, Region.binds .any e = true → L.getD e.on false = true)
    (hR : ∀ j v, R j v w → R j v w') (h : Fits ops a0 R L a w) (hv : o.dst.isSome → R i v w') : Fits ops a0 R (L.setIfInBounds i true) (a.put o.dst v) w' where
  defers := by rw [defers_put]; exact h.defers
  size := by rw [size_put]; exact h.size
  lsize := by rw [Array.size_setIfInBounds]; exact h.lsize
  val := by
    intro j oj t hj hL hd
    rcases getD_set_of hL with rfl | hL'
    · rw [ho] at hj; injection hj with hj; subst hj
      rw [hd, eval_put_same (by rw [h.size]; exact fine_lt hf ho hd)]
      exact hv (by rw [hd]; rfl)
    · by_cases e : j = i
      · subst e; rw [ho] at hj; injection hj with hj; subst hj
        rw [hd, eval_put_same (by rw [h.size]; exact fine_lt hf ho hd)]
        exact hv (by rw [hd]; rfl)
      · cases hd' : o.dst with
        | none => exact hR _ _ (h.val j oj t hj hL' hd)
        | some u =>
          have hne : u ≠ t := fun e2 => e (fine_dst hf ho hj (e2 ▸ hd') hd)
          rw [eval_put_other hne]; exact hR _ _ (h.val j oj t hj hL' hd)
  old := by
    intro t hno
    have h1 : a.eval (.tmp t) = a0.eval (.tmp t) := h.old t (fun j oj hj hL => hno j oj hj (getD_set_true hL))
    cases hd' : o.dst with
    | none => exact h1
    | some u =>
      have hlt : i < L.size := by
        rcases Nat.lt_or_ge i ops.size with h' | h'
        · rw [h.lsize]; exact h'
        · rw [Array.getElem?_eq_none h'] at ho; cases ho
      have hne : u ≠ t := fun e2 => hno i o ho (by simp [hlt]) (e2 ▸ hd')
      rw [eval_put_other hne]; exact h1
  closed := by
    intro j oj hj hL e he hb
    rcases getD_set_of hL with rfl | hL'
    · rw [ho] at hj; injection hj with hj; subst hj
      exact getD_set_true (hall e he hb)
    · exact getD_set_true (h.closed j oj hj hL' e he hb)

/-- Nothing may come up: all have. -/
theorem all_listed {n : Nat} {L : Array Bool} (hf : fineB ops n = true) (hl : L.size = ops.size) (hr : Region.ready .any ops L = []) : ∀ i, i < ops.size → L.getD i false = true := by
  intro i
  induction i using Nat.strongRecOn with
  | ind i ih =>
    intro hi
    have ho : ops[i]? = some ops[i] := Array.getElem?_eq_getElem hi
    cases hL : L.getD i false with
    | true => rfl
    | false =>
      have hm : i ∈ Region.ready .any ops L := by
        rw [mem_ready]
        refine ⟨?_, ops[i], ho, fun e he hb => ih e.on (fine_back hf ho e he hb) (Nat.lt_trans (fine_back hf ho e he hb) hi)⟩
        have hlt : i < L.size := by omega
        simp [hlt] at hL ⊢; exact hL
      rw [hr] at hm; cases hm

theorem count_set {L : Array Bool} {i : Nat} (h : L.getD i true = false) : (L.setIfInBounds i true).toList.countP (! ·) + 1 = L.toList.countP (! ·) := by
  have hlt : i < L.size := by
    rcases Nat.lt_or_ge i L.size with h' | h'
    · exact h'
    · simp [Array.getElem?_eq_none h'] at h
  have hv : L[i] = false := by simpa [hlt] using h
  have hp : 0 < L.toList.countP (! ·) := List.countP_pos_iff.2 ⟨L[i], by simp, by simp [hv]⟩
  rw [Array.toList_setIfInBounds, List.countP_set (by simpa using hlt)]
  have e : (L.toList)[i]'(by simpa using hlt) = false := by simpa using hv
  rw [e]
  show L.toList.countP (! ·) - 1 + 0 + 1 = _
  omega

/-- The rule, from any stage on. -/
theorem wpAny_of_steps {Q : Exit → Act → World → Prop} (hf : fineB ops a0.tmps.size = true) (hR : ∀ j v w w', Pres w w' → R j v w → R j v w')
    (hs : ∀ i o, ops[i]? = some o → StepAt P ops a0 R Pres Inv i o) (hrefl : ∀ w, Pres w w)
    (hend : ∀ L a w, (∀ i, i < ops.size → L.getD i false = true) → Inv L w → Fits ops a0 R L a w → Q .normal a w) :
    ∀ (fuel : Nat) (L : Array Bool) (a : Act) (w : World), L.toList.countP (! ·) = fuel → Inv L w → Fits ops a0 R L a w → wpAny P .any ops Q fuel L a w := by
  intro fuel
  induction fuel with
  | zero =>
    intro L a w hc hI hF
    have hr : Region.ready .any ops L = [] := by
      cases h : Region.ready .any ops L with
      | nil => rfl
      | cons x xs =>
        have hx : x ∈ Region.ready .any ops L := by rw [h]; simp
        have := count_set (mem_ready.1 hx).1
        omega
    exact ⟨hr, hend L a w (all_listed hf hF.lsize hr) hI hF⟩
  | succ fuel ih =>
    intro L a w hc hI hF
    refine ⟨fun hr => hend L a w (all_listed hf hF.lsize hr) hI hF, fun i hi => ?_⟩
    obtain ⟨h0, o, ho, hall⟩ := mem_ready.1 hi
    have hst := hs i o ho L a.eval w hI h0 hall hF.at
    have hcs := count_set h0
    unfold wpOp
    simp only [ho]
    have go : Outcome P (fun v w' => R i v w' ∧ Pres w w' ∧ Inv (L.setIfInBounds i true) w') ((execOp a.eval o).run P w) →
        o.wp P a w (wpAny P .any ops Q fuel (L.setIfInBounds i true)) Q := fun h =>
      outcome_wp h fun v w' ⟨h1, h2, h3⟩ => ih _ _ _ (by omega) h3 (hF.put hf ho hall (fun j v => hR j v w w' h2) (fun _ => h1))
    cases hg : o.guard with
    | none =>
      rw [hg] at hst
      rw [if_pos (by simp [Region.wanted, hg])]
      exact .inl (go hst)
    | some gw =>
      obtain ⟨g, want⟩ := gw
      rw [hg] at hst
      rcases hst with ⟨og, t, b, hog, hd, hev, hcase⟩ | ⟨og, t, hog, hd, hev, hcase⟩
      case inr =>
        have hy : yielded ops a.tmps g = none := yielded_undef hog hd hev
        rw [if_neg (by simp [Region.wanted, hg, hy])]
        exact ih _ _ _ (by omega) hcase.2 (hF.put hf ho hall (fun j v => hR j v w w (hrefl w)) (fun _ => hcase.1))
      have hy : yielded ops a.tmps g = some b := by
        have hb : a.tmps[t]? = some (.bool b) := by
          have : a.tmps.getD t undef = .bool b := hev
          rw [Array.getD_eq_getD_getElem?] at this
          cases h : a.tmps[t]? with
          | none => rw [h] at this; cases this
          | some x => rw [h] at this; simpa using this
        simp [yielded, hog, hd, hb]
      by_cases hbw : b = want
      · rw [if_pos hbw] at hcase
        rw [if_pos (by simp [Region.wanted, hg, hy, hbw])]
        exact .inl (go hcase)
      · rw [if_neg hbw] at hcase
        rw [if_neg (by simp [Region.wanted, hg, hy, hbw])]
        exact ih _ _ _ (by omega) hcase.2 (hF.put hf ho hall (fun j v => hR j v w w (hrefl w)) (fun _ => hcase.1))

/-- No operation writes slot t. -/
def noneWrites (ops : Array Oper) (t : Nat) : Bool := ops.all fun o => o.dst != some t
/-- None but number j writes slot t. -/
def onlyWrites (ops : Array Oper) (t j : Nat) : Bool := (List.range ops.size).all fun i => decide (i = j) || ((ops[i]?).bind (·.dst)) != some t

theorem At.oldNone {L : Array Bool} {ev : Operand → Value} {w : World} (h : At ops a0 R L ev w) (t : Nat) (hb : noneWrites ops t = true) : ev (.tmp t) = a0.eval (.tmp t) := by
  refine h.old t fun j o ho _ hd => ?_
  have := (Array.all_eq_true_iff_forall_mem.1 hb) o (Array.mem_of_getElem? ho)
  simp [hd] at this

theorem At.oldBut {L : Array Bool} {ev : Operand → Value} {w : World} {i : Nat} (h : At ops a0 R L ev w) (j : Nat) (oj : Oper) (t : Nat) (hb : onlyWrites ops t j = true) (hj : ops[j]? = some oj)
    (e : Edge) (he : e ∈ oj.after) (hbi : Region.binds .any e = true) (hi : L.getD i true = false) (hei : e.on = i := by rfl) : ev (.tmp t) = a0.eval (.tmp t) := by
  refine h.old t fun k o ho hL hd => ?_
  have hk : k < ops.size := by
    rcases Nat.lt_or_ge k ops.size with h' | h'
    · exact h'
    · rw [Array.getElem?_eq_none h'] at ho; cases ho
  have h1 := List.all_eq_true.1 hb k (List.mem_range.2 hk)
  simp only [ho, Option.bind_some, hd] at h1
  have hkj : k = j := by simpa using h1
  subst hkj
  have h2 := h.closed k oj hj hL e he hbi
  rw [hei] at h2
  rcases Nat.lt_or_ge i L.size with h' | h'
  · simp [h'] at h2 hi; rw [hi] at h2; cases h2
  · simp [Array.getElem?_eq_none h'] at h2

/-- Properties by a list. -/
def ofList (l : List (Value → World → Prop)) : Nat → Value → World → Prop := fun j => l.getD j (fun _ _ => True)

/-- Each of them is kept. -/
def AllKept (Pres : World → World → Prop) : List (Value → World → Prop) → Prop
  | [] => True
  | p :: l => (∀ v w w', Pres w w' → p v w → p v w') ∧ AllKept Pres l

theorem AllKept.at {Pres : World → World → Prop} : ∀ (l : List (Value → World → Prop)), AllKept Pres l → ∀ j v w w', Pres w w' → ofList l j v w → ofList l j v w'
  | [], _, _, _, _, _, _, _ => trivial
  | _ :: _, h, 0, v, w, w', hp, hv => h.1 v w w' hp hv
  | _ :: l, h, j + 1, v, w, w', hp, hv => AllKept.at l h.2 j v w w' hp hv

theorem out_new {K : Value → World → Prop} {ev : Operand → Value} {o : Oper} {w w' : World} {v : Value} (hrun : (execOp ev o).run P w = .ok (.value v) w') (hk : K v w') :
    Outcome P K ((execOp ev o).run P w) := by
  rw [hrun]; exact hk
theorem out_value {K : Value → World → Prop} {ev : Operand → Value} {o : Oper} {w : World} {v : Value} (hrun : (execOp ev o).run P w = .ok (.value v) w) (hk : K v w) :
    Outcome P K ((execOp ev o).run P w) := by
  rw [hrun]; exact hk
theorem out_call {f : Nat} {K : Value → World → Prop} {ev : Operand → Value} {o : Oper} {w w0 : World} {args : Array Value} (hrun : (execOp ev o).run P w = .ok (.enter f args) w0)
    (hc : Calls P f args w0 fun e w'' => ∃ v, e = .returned v ∧ K v w'') : Outcome P K ((execOp ev o).run P w) := by
  rw [hrun]; exact hc

/-- THE RULE. -/
theorem wp_region_props {id : Nat} {l : List Oper} {Q : Exit → Act → World → Prop} {w : World} (R : Nat → Value → World → Prop) (Pres : World → World → Prop) (Inv : Array Bool → World → Prop)
    (hm : P.follows .mixedOrders = true) (hf : fineB l.toArray a0.tmps.size = true) (hR : ∀ j v w w', Pres w w' → R j v w → R j v w') (hrefl : ∀ w, Pres w w)
    (hI : Inv (Array.replicate l.length false) w.drew)
    (hs : AllSteps P l.toArray a0 R Pres Inv 0 l)
    (hend : ∀ L a w, (∀ i, i < l.length → L.getD i false = true) → Inv L w → Fits l.toArray a0 R L a w → Q .normal a w) : (Code.region id l.toArray true).wp P Q a0 w := by
  refine wp_region_any hm ?_
  refine wpAny_of_steps (Pres := Pres) (Inv := Inv) (R := R) (a0 := a0) hf hR ?_ hrefl (by simpa using hend) _ _ _ _ ?_ (by simpa using hI) ?_
  · intro i o ho
    have := hs.at l 0 i o (by simpa using ho)
    simpa using this
  · simp [List.countP_replicate]
  · refine ⟨rfl, rfl, by simp, ?_, fun _ _ => rfl, ?_⟩
    · intro j o t ho hL
      exfalso
      rw [Array.getD_eq_getD_getElem?] at hL
      by_cases hj : j < l.toArray.size
      · simp at hj; simp [hj] at hL
      · simp at hj; simp [hj] at hL
    · intro j o ho hL
      exfalso
      rw [Array.getD_eq_getD_getElem?] at hL
      by_cases hj : j < l.toArray.size
      · simp at hj; simp [hj] at hL
      · simp at hj; simp [hj] at hL
end

/-- A slice of just these values, in a block of its own. -/
def OwnSl (l : List Value) (v : Value) (w : World) : Prop :=
  ∃ sb, v = .slice (some ⟨sb, 0, none⟩) l.length l.length ∧ sb < w.heap.size ∧ ∀ i (h : i < l.length), w.cell? ⟨sb, i, none⟩ = some l[i]
/-- Nothing that was there is another one. -/
def Keeps (w w' : World) : Prop := RowKit.Below w.heap.size w w'
theorem Keeps.refl (w : World) : Keeps w w := RowKit.Below.refl _ _
theorem Keeps.drewN {w w' : World} (h : Keeps w w') (n : Nat) : Keeps w (w'.drewN n) := ⟨h.os, h.tape, h.output, h.size, h.block⟩
theorem Keeps.alloc {w w' : World} (h : Keeps w w') (o : Obj) : Keeps w (w'.alloc o) := RowKit.Below.alloc h h.size o
theorem Keeps.trans {w w' w'' : World} (h : Keeps w w') (k : Keeps w' w'') : Keeps w w'' := RowKit.Below.trans h (RowKit.Below.mono k h.size)
theorem OwnSl.keeps {l : List Value} {v : Value} {w w' : World} (hk : Keeps w w') (h : OwnSl l v w) : OwnSl l v w' := by
  obtain ⟨sb, hv, hs, hc⟩ := h
  refine ⟨sb, hv, Nat.lt_of_lt_of_le hs hk.size, fun i hi => ?_⟩
  rw [hk.cell (p := ⟨sb, i, none⟩) hs]; exact hc i hi
theorem OwnSl.new (l : List Value) (w : World) (t : TypeId) (n : Nat) (hn : n = l.length) : OwnSl l (.slice (some ⟨w.heap.size, 0, none⟩) n n) (w.alloc (.cells l.toArray t)) := by
  subst hn
  refine ⟨w.heap.size, rfl, by simp, fun i hi => ?_⟩
  rw [World.cell?_alloc_new]; simp [hi]
end Go.Proofs.YtdghgmaoamjnlaaGreat.Reg

namespace Go.Proofs.YtdghgmaoamjnlaaGreat.Reg
open Go

section
variable {γ : Type} (P : Program) (ops : Array Oper) (a0 : Act) (R : Nat → Value → γ → World → Prop) (Pres : γ → World → γ → World → Prop) (Inv : γ → Array Bool → World → Prop)

/-- What is asked of one operation. -/
def GStepAt (i : Nat) (o : Oper) : Prop :=
  ∀ (x : γ) (L : Array Bool) (ev : Operand → Value) (w : World), Inv x L w → L.getD i true = false → (∀ e ∈ o.after, Region.binds .any e = true → L.getD e.on false = true) → At ops a0 (fun j v w => R j v x w) L ev w →
    match o.guard with
    | none => Outcome P (fun v w' => ∃ x', R i v x' w' ∧ Pres x w x' w' ∧ Inv x' (L.setIfInBounds i true) w') ((execOp ev o).run P w)
    | some (g, want) => ∃ og t b, ops[g]? = some og ∧ og.dst = some t ∧ ev (.tmp t) = .bool b ∧
        if b = want then Outcome P (fun v w' => ∃ x', R i v x' w' ∧ Pres x w x' w' ∧ Inv x' (L.setIfInBounds i true) w') ((execOp ev o).run P w)
        else R i undef x w ∧ Inv x (L.setIfInBounds i true) w

def GAllSteps : Nat → List Oper → Prop
  | _, [] => True
  | k, o :: l => GStepAt P ops a0 R Pres Inv k o ∧ GAllSteps (k + 1) l
end

section
variable {γ : Type} {P : Program} {ops : Array Oper} {a0 : Act} {R : Nat → Value → γ → World → Prop} {Pres : γ → World → γ → World → Prop} {Inv : γ → Array Bool → World → Prop}

theorem GStepAt.plain {i : Nat} {o : Oper} (hg : o.guard = none)
    (h : ∀ (x : γ) (L : Array Bool) (ev : Operand → Value) (w : World), Inv x L w → L.getD i true = false → (∀ e ∈ o.after, Region.binds .any e = true → L.getD e.on false = true) → At ops a0 (fun j v w => R j v x w) L ev w →
      Outcome P (fun v w' => ∃ x', R i v x' w' ∧ Pres x w x' w' ∧ Inv x' (L.setIfInBounds i true) w') ((execOp ev o).run P w)) : GStepAt P ops a0 R Pres Inv i o := by
  intro x L ev w hI hk hp hA
  rw [hg]; exact h x L ev w hI hk hp hA
theorem GStepAt.guarded {i g : Nat} {want : Bool} {o : Oper} (hg : o.guard = some (g, want))
    (h : ∀ (x : γ) (L : Array Bool) (ev : Operand → Value) (w : World), Inv x L w → L.getD i true = false → (∀ e ∈ o.after, Region.binds .any e = true → L.getD e.on false = true) → At ops a0 (fun j v w => R j v x w) L ev w →
      ∃ og t, ops[g]? = some og ∧ og.dst = some t ∧ ev (.tmp t) = .bool want ∧
        Outcome P (fun v w' => ∃ x', R i v x' w' ∧ Pres x w x' w' ∧ Inv x' (L.setIfInBounds i true) w') ((execOp ev o).run P w)) : GStepAt P ops a0 R Pres Inv i o := by
  intro x L ev w hI hk hp hA
  rw [hg]
  obtain ⟨og, t, h1, h2, h3, h4⟩ := h x L ev w hI hk hp hA
  exact ⟨og, t, want, h1, h2, h3, by rw [if_pos rfl]; exact h4⟩

theorem GAllSteps.at : ∀ (l : List Oper) (k : Nat), GAllSteps P ops a0 R Pres Inv k l → ∀ (i : Nat) (o : Oper), l[i]? = some o → GStepAt P ops a0 R Pres Inv (k + i) o
  | [], _, _, i, o, h => by simp at h
  | x :: l, k, hs, 0, o, h => by simp at h; subst h; exact hs.1
  | x :: l, k, hs, i + 1, o, h => by
    have := GAllSteps.at l (k + 1) hs.2 i o (by simpa using h)
    rw [show k + (i + 1) = k + 1 + i by omega]; exact this

/-- The properties turned, all at once. -/
theorem Fits.turn {R R' : Nat → Value → World → Prop} {L : Array Bool} {a : Act} {w w' : World} (h : Fits ops a0 R L a w) (hR : ∀ j v, R j v w → R' j v w') : Fits ops a0 R' L a w' :=
  ⟨h.defers, h.size, h.lsize, fun j o t h1 h2 h3 => hR _ _ (h.val j o t h1 h2 h3), h.old, h.closed⟩

theorem gwpAny_of_steps {Q : Exit → Act → World → Prop} (hf : fineB ops a0.tmps.size = true) (hR : ∀ j v x w x' w', Pres x w x' w' → R j v x w → R j v x' w')
    (hs : ∀ i o, ops[i]? = some o → GStepAt P ops a0 R Pres Inv i o)
    (hend : ∀ x L a w, (∀ i, i < ops.size → L.getD i false = true) → Inv x L w → Fits ops a0 (fun j v w => R j v x w) L a w → Q .normal a w) :
    ∀ (fuel : Nat) (x : γ) (L : Array Bool) (a : Act) (w : World), L.toList.countP (! ·) = fuel → Inv x L w → Fits ops a0 (fun j v w => R j v x w) L a w → wpAny P .any ops Q fuel L a w := by
  intro fuel
  induction fuel with
  | zero =>
    intro x L a w hc hI hF
    have hr : Region.ready .any ops L = [] := by
      cases h : Region.ready .any ops L with
      | nil => rfl
      | cons y ys =>
        have hx : y ∈ Region.ready .any ops L := by rw [h]; simp
        have := count_set (mem_ready.1 hx).1
        omega
    exact ⟨hr, hend x L a w (all_listed hf hF.lsize hr) hI hF⟩
  | succ fuel ih =>
    intro x L a w hc hI hF
    refine ⟨fun hr => hend x L a w (all_listed hf hF.lsize hr) hI hF, fun i hi => ?_⟩
    obtain ⟨h0, o, ho, hall⟩ := mem_ready.1 hi
    have hst := hs i o ho x L a.eval w hI h0 hall hF.at
    have hcs := count_set h0
    unfold wpOp
    simp only [ho]
    have go : Outcome P (fun v w' => ∃ x', R i v x' w' ∧ Pres x w x' w' ∧ Inv x' (L.setIfInBounds i true) w') ((execOp a.eval o).run P w) →
        o.wp P a w (wpAny P .any ops Q fuel (L.setIfInBounds i true)) Q := fun h =>
      outcome_wp h fun v w' ⟨x', h1, h2, h3⟩ => ih x' _ _ _ (by omega) h3 ((hF.turn (R' := fun j v w => R j v x' w) (w' := w') (fun j v => hR j v x w x' w' h2)).put hf ho hall (fun _ _ h => h) (fun _ => h1))
    cases hg : o.guard with
    | none =>
      rw [hg] at hst
      rw [if_pos (by simp [Region.wanted, hg])]
      exact .inl (go hst)
    | some gw =>
      obtain ⟨g, want⟩ := gw
      rw [hg] at hst
      obtain ⟨og, t, b, hog, hd, hev, hcase⟩ := hst
      have hy : yielded ops a.tmps g = some b := by
        have hb : a.tmps[t]? = some (.bool b) := by
          have : a.tmps.getD t undef = .bool b := hev
          rw [Array.getD_eq_getD_getElem?] at this
          cases h : a.tmps[t]? with
          | none => rw [h] at this; cases this
          | some y => rw [h] at this; simpa using this
        simp [yielded, hog, hd, hb]
      by_cases hbw : b = want
      · rw [if_pos hbw] at hcase
        rw [if_pos (by simp [Region.wanted, hg, hy, hbw])]
        exact .inl (go hcase)
      · rw [if_neg hbw] at hcase
        rw [if_neg (by simp [Region.wanted, hg, hy, hbw])]
        exact ih x _ _ _ (by omega) hcase.2 (hF.put hf ho hall (fun _ _ h => h) (fun _ => hcase.1))

/-- THE RULE, with a ghost. -/
theorem wp_region_ghost {id : Nat} {l : List Oper} {Q : Exit → Act → World → Prop} {w : World} (R : Nat → Value → γ → World → Prop) (Pres : γ → World → γ → World → Prop) (Inv : γ → Array Bool → World → Prop) (x0 : γ)
    (hm : P.follows .mixedOrders = true) (hf : fineB l.toArray a0.tmps.size = true) (hR : ∀ j v x w x' w', Pres x w x' w' → R j v x w → R j v x' w')
    (hI : Inv x0 (Array.replicate l.length false) w.drew)
    (hs : GAllSteps P l.toArray a0 R Pres Inv 0 l)
    (hend : ∀ x L a w, (∀ i, i < l.length → L.getD i false = true) → Inv x L w → Fits l.toArray a0 (fun j v w => R j v x w) L a w → Q .normal a w) : (Code.region id l.toArray true).wp P Q a0 w := by
  refine wp_region_any hm ?_
  refine gwpAny_of_steps (Pres := Pres) (Inv := Inv) (R := R) (a0 := a0) hf hR ?_ (by simpa using hend) _ x0 _ _ _ ?_ (by simpa using hI) ?_
  · intro i o ho
    have := hs.at l 0 i o (by simpa using ho)
    simpa using this
  · simp [List.countP_replicate]
  · refine ⟨rfl, rfl, by simp, ?_, fun _ _ => rfl, ?_⟩
    · intro j o t ho hL
      exfalso
      rw [Array.getD_eq_getD_getElem?] at hL
      by_cases hj : j < l.toArray.size
      · simp at hj; simp [hj] at hL
      · simp at hj; simp [hj] at hL
    · intro j o ho hL
      exfalso
      rw [Array.getD_eq_getD_getElem?] at hL
      by_cases hj : j < l.toArray.size
      · simp at hj; simp [hj] at hL
      · simp at hj; simp [hj] at hL

/-- Properties by a list. -/
def gofList (l : List (Value → γ → World → Prop)) : Nat → Value → γ → World → Prop := fun j => l.getD j (fun _ _ _ => True)
def GAllKept (Pres : γ → World → γ → World → Prop) : List (Value → γ → World → Prop) → Prop
  | [] => True
  | p :: l => (∀ v x w x' w', Pres x w x' w' → p v x w → p v x' w') ∧ GAllKept Pres l
theorem GAllKept.at {Pres : γ → World → γ → World → Prop} : ∀ (l : List (Value → γ → World → Prop)), GAllKept Pres l → ∀ j v x w x' w', Pres x w x' w' → gofList l j v x w → gofList l j v x' w'
  | [], _, _, _, _, _, _, _, _, _ => trivial
  | _ :: _, h, 0, v, x, w, x', w', hp, hv => h.1 v x w x' w' hp hv
  | _ :: l, h, j + 1, v, x, w, x', w', hp, hv => GAllKept.at l h.2 j v x w x' w' hp hv
end
end Go.Proofs.YtdghgmaoamjnlaaGreat.Reg
