/-
  Arguments of the laws of layers 4 and 5, opened: items and values in the making.
  Calls of an engine, as an argument of the laws of layer 13, opened.
  Layer 6's reference: draws, parameters: contracts.
  Layer 6's reference: draws, parameters: contracts.
-/
import Derived.Test.YtbcmilfajeanbaaGreatAll4All
import Derived.Deep.SlicePairs
import Derived.Lib.SmallJoins
import Derived.Carry
import Derived.ProofKit
import Derived.OpenShut
import Derived.Test.YtbcmilfajeanbaaGreatKNew9All
namespace Go.Proofs.YtbcmilfajeanbaaGreat
open Go.ChangeShapes Go.WideShapes Go.ChangeAt Go.RowKit Go.Deep Go.Joins

theorem own45 : ownKnob Tryz.prog.godebug = none := by kernel_rfl
theorem laid45 : laidOutB Tryz.prog = true := by kernel_rfl
theorem cells45R : Tryz.prog.cellsOf 32 = 2 := by kernel_rfl
theorem cells45U : Tryz.prog.cellsOf 30 = 1 := by kernel_rfl
theorem cells45I : Tryz.prog.cellsOf 2 = 1 := by kernel_rfl
theorem wf45_u64 {x : Int} (h : (Lit.int .u64 x).wf = true) : 0 ≤ x ∧ x < 18446744073709551616 := by
  simp [Lit.wf, IntKind.min, IntKind.max, IntKind.signed, IntKind.bits] at h
  omega

set_option maxRecDepth 100000 in
theorem raw45_open {H : Type} {enc : TypeId × Value → H} {W : World} {b0 : Nat} {v : Value} {d : DataW H} {p : List MemPlace}
    (hv : Value.okWide Tryz.prog W .any b0 32 v) (h : DataW.Trod enc Tryz.prog W 0 (fun _ => true) true 32 v d p) : ∃ x y : Int, v = .agg #[.int .u64 x, .int .i64 y] ∧ 0 ≤ x ∧ x < 18446744073709551616 := by
  obtain ⟨v0, v1, y0, y1, n, rfl, _, _, t0, t1⟩ := open_agg2 Tryz.underlying32 (by kernel_rfl) cells45R hv h
  obtain ⟨z0, e0, _, wz0⟩ := DataW.trod_int Tryz.underlying30 t0
  obtain ⟨z1, e1, _, wz1⟩ := DataW.trod_int Tryz.underlying2 t1
  simp at e0 e1
  subst e0; subst e1
  exact ⟨z0, z1, rfl, wf45_u64 wz0⟩
end Go.Proofs.YtbcmilfajeanbaaGreat

namespace Go.Proofs.YtbcmilfajeanbaaGreat
open Go.ChangeShapes Go.WideShapes Go.ChangeAt Go.RowKit Go.Deep Go.Joins

/-- One call: which, whose, which step, and an operation in the making. -/
structure Ac13 where
  kind : Int
  thread : Int
  pick : Int
  k : Int
  p : Int
  x : Int
  d0 : Int
  d1 : Int
def Act13At (w : World) (g o : Nat) : Prop :=
  ∃ A : Ac13, (w.cell? ⟨g, o, none⟩ = some (.int .i64 A.kind) ∧ w.cell? ⟨g, o + 1, none⟩ = some (.int .i64 A.thread) ∧ w.cell? ⟨g, o + 2, none⟩ = some (.int .i64 A.pick) ∧ w.cell? ⟨g, o + 3, none⟩ = some (.int .i64 A.k)) ∧
    (w.cell? ⟨g, o + 4, none⟩ = some (.int .u64 A.p) ∧ w.cell? ⟨g, o + 5, none⟩ = some (.int .i64 A.x) ∧ w.cell? ⟨g, o + 6, none⟩ = some (.int .i64 A.d0) ∧ w.cell? ⟨g, o + 7, none⟩ = some (.int .i64 A.d1)) ∧ 0 ≤ A.p ∧ A.p < 18446744073709551616
/-- Calls, as an argument. -/
def Acts13 (w : World) (a : Option Addr) (n : Nat) : Prop := ∀ i, i < n → ∃ g off, a = some ⟨g, off, none⟩ ∧ g < w.heap.size ∧ Act13At w g (off + i * 8)
theorem Acts13.below {w w' : World} {a : Option Addr} {n : Nat} (h : Acts13 w a n) (hb : Below w.heap.size w w') : Acts13 w' a n := fun i hi => by
  obtain ⟨g, off, h1, h2, A, ⟨c0, c1, c2, c3⟩, ⟨c4, c5, c6, c7⟩, h4⟩ := h i hi
  refine ⟨g, off, h1, Nat.lt_of_lt_of_le h2 hb.size, A, ⟨?_, ?_, ?_, ?_⟩, ⟨?_, ?_, ?_, ?_⟩, h4⟩
  · exact (hb.cell (p := ⟨g, off + i * 8, none⟩) h2).trans c0
  · exact (hb.cell (p := ⟨g, off + i * 8 + 1, none⟩) h2).trans c1
  · exact (hb.cell (p := ⟨g, off + i * 8 + 2, none⟩) h2).trans c2
  · exact (hb.cell (p := ⟨g, off + i * 8 + 3, none⟩) h2).trans c3
  · exact (hb.cell (p := ⟨g, off + i * 8 + 4, none⟩) h2).trans c4
  · exact (hb.cell (p := ⟨g, off + i * 8 + 5, none⟩) h2).trans c5
  · exact (hb.cell (p := ⟨g, off + i * 8 + 6, none⟩) h2).trans c6
  · exact (hb.cell (p := ⟨g, off + i * 8 + 7, none⟩) h2).trans c7

theorem cells13A : Tryz.prog.cellsOf 36 = 8 := by kernel_rfl
theorem cells13R : Tryz.prog.cellsOf 34 = 5 := by kernel_rfl
theorem cells13I : Tryz.prog.cellsOf 3 = 1 := by kernel_rfl

set_option maxRecDepth 100000 in
set_option maxHeartbeats 2000000 in
theorem acts13_open {H : Type} {enc : TypeId × Value → H} {W : World} {fuel : Nat} {a : Option Addr} {len cap : Nat} {x : DataW H × List MemPlace}
    (h : DataW.trod enc Tryz.prog W 0 (fun _ => true) true fuel 22 [.slice a len cap] = some x) : Acts13 W a len := by
  rcases open_slice Tryz.underlying22 h with ⟨hcs, _⟩ | ⟨a', len', cap', m, n, D, Pl, hcs, _, hl, hm, hmm, _, hcell⟩
  · simp at hcs
    obtain ⟨rfl, rfl, rfl⟩ := hcs
    exact fun i hi => absurd hi (Nat.not_lt_zero _)
  · simp at hcs
    obtain ⟨rfl, rfl, rfl⟩ := hcs
    simp only [if_true] at hmm
    intro i hi
    obtain ⟨cs, h1, h2⟩ := hcell i (by omega)
    rw [cells13A] at h1
    obtain ⟨_, hlen, hc⟩ := World.cells?_some h1
    obtain ⟨y0, y1, y2, y3, k, _, _, t0, t1, t2, t3⟩ := trod_struct4 Tryz.underlying36 h2
    match cs, hlen with
    | [v0, v1, v2, v3, v4, v5, v6, v7], _ =>
      simp [cells13I, cells13R] at t0 t1 t2 t3
      obtain ⟨z0, e0, _, _⟩ := DataW.trod_int Tryz.underlying3 t0
      obtain ⟨z1, e1, _, _⟩ := DataW.trod_int Tryz.underlying3 t1
      obtain ⟨z2, e2, _, _⟩ := DataW.trod_int Tryz.underlying3 t2
      obtain ⟨y4, y5, y6, y7, k', _, _, t4, t5, t6, t7⟩ := trod_struct4 Tryz.underlying34 t3
      simp [cells13I, cells45R] at t4 t5 t6 t7
      obtain ⟨z3, e3, _, _⟩ := DataW.trod_int Tryz.underlying3 t4
      obtain ⟨y8, y9, k'', _, _, t8, t9⟩ := trod_struct2 Tryz.underlying32 t5
      simp [cells45U, cells45I] at t8 t9
      obtain ⟨z4, e4, _, wz4⟩ := DataW.trod_int Tryz.underlying30 t8
      obtain ⟨z5, e5, _, _⟩ := DataW.trod_int Tryz.underlying2 t9
      obtain ⟨z6, e6, _, _⟩ := DataW.trod_int Tryz.underlying3 t6
      obtain ⟨z7, e7, _, _⟩ := DataW.trod_int Tryz.underlying3 t7
      simp at e0 e1 e2 e3 e4 e5 e6 e7
      subst e0; subst e1; subst e2; subst e3; subst e4; subst e5; subst e6; subst e7
      obtain ⟨b, off, spot⟩ := a'
      have c0 := hc 0 (by omega)
      have c1 := hc 1 (by omega)
      have c2 := hc 2 (by omega)
      have c3 := hc 3 (by omega)
      have c4 := hc 4 (by omega)
      have c5 := hc 5 (by omega)
      have c6 := hc 6 (by omega)
      have c7 := hc 7 (by omega)
      have hspot : spot = none := by
        obtain ⟨cs0, q1, _⟩ := hcell 0 (by omega)
        rw [cells13A] at q1
        obtain ⟨_, hlen0, hc0⟩ := World.cells?_some q1
        have q2 := hc0 0 (by omega)
        rw [List.getElem?_eq_getElem (by omega)] at q2
        simpa [Addr.add] using World.cell?_spot q2
      subst hspot
      simp only [add_plain] at c0 c1 c2 c3 c4 c5 c6 c7
      refine ⟨b, off, rfl, World.block_lt_of_cell? _ _ c0, ⟨z0, z1, z2, z3, z4, z5, z6, z7⟩, ⟨?_, ?_, ?_, ?_⟩, ⟨?_, ?_, ?_, ?_⟩, wf45_u64 wz4⟩
      · exact c0
      · exact c1
      · exact c2
      · exact c3
      · exact c4
      · exact c5
      · exact c6
      · exact c7
end Go.Proofs.YtbcmilfajeanbaaGreat

namespace Go.Proofs.YtbcmilfajeanbaaGreat
open Go.RowKit

theorem rinto_any (d n : Int) (w : World) (hn : n ≤ 9223372036854775807) :
    Calls Tryz.prog 32 #[.int .i64 d, .int .i64 n] w fun e w' => e = .returned (.int .i64 (into d n)) ∧ w' = w := by
  by_cases h : n < 1
  · rw [into_lo h]
    go_enter Tryz.func32, Tryz.ntmps32
    go_wp2
    go_ret
    exact ⟨rfl, rfl⟩
  · rw [into_hi h]
    have h1 : decide (n < 1) = false := decide_eq_false h
    have hn0 : (n == 0) = false := by simp; omega
    have hn1 : 1 ≤ n := by omega
    by_cases hm : d.tmod n < 0
    · have e1 := tmod_emod_neg hn1 hm
      have e2 := Int.lt_tmod_of_pos d (show 0 < n by omega)
      have hw : wrap64 (d.tmod n + n) = d % n := by unfold wrap64; omega
      have HW : Hid (∀ _ : Unit, wrap64 (d.tmod n + n) = d % n) := fun _ => hw
      clear e1 hw e2
      go_enter Tryz.func32, Tryz.ntmps32
      go_wp2
      go_ret
      exact ⟨by rw [← HW ()]; rfl, rfl⟩
    · have e1 : d.tmod n = d % n := tmod_emod_nonneg hn1 (by omega)
      have HW : Hid (∀ _ : Unit, d.tmod n = d % n) := fun _ => e1
      have hm1 : decide (d.tmod n < 0) = false := decide_eq_false hm
      clear e1
      go_enter Tryz.func32, Tryz.ntmps32
      go_wp2
      go_ret
      exact ⟨by rw [← HW ()]; rfl, rfl⟩

end Go.Proofs.YtbcmilfajeanbaaGreat

namespace Go.Proofs.YtbcmilfajeanbaaGreat
open Go.RowKit

end Go.Proofs.YtbcmilfajeanbaaGreat
