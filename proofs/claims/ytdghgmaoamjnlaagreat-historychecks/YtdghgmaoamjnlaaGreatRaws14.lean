/-
  Calls in the making, as an argument of layer 14's laws, opened.
-/
import Derived.Test.YtdghgmaoamjnlaaGreatOpen14
import Derived.Test.YtdghgmaoamjnlaaGreatRChk14All
namespace Go.Proofs.YtdghgmaoamjnlaaGreat
open Go.ChangeShapes Go.WideShapes Go.ChangeAt Go.RowKit Go.Deep Go.Joins

theorem cells14Rw : Tryz.prog.cellsOf 177 = 3 := by kernel_rfl
theorem cells14I : Tryz.prog.cellsOf 3 = 1 := by kernel_rfl

set_option maxRecDepth 100000 in
theorem raws14_open {H : Type} {enc : TypeId × Value → H} {W : World} {fuel : Nat} {a : Option Addr} {len cap : Nat} {x : DataW H × List MemPlace}
    (h : DataW.trod enc Tryz.prog W 0 (fun _ => true) true fuel 110 [.slice a len cap] = some x) : ∃ R, RawIn W a len R := by
  have hp : ∀ i : Nat, ∃ r : Int × Int × Int, i < len → ∃ b off, a = some ⟨b, off, none⟩ ∧ b < W.heap.size ∧ W.cell? ⟨b, off + i * 3, none⟩ = some (.int .i64 r.1) ∧ W.cell? ⟨b, off + i * 3 + 1, none⟩ = some (.int .i64 r.2.1) ∧ W.cell? ⟨b, off + i * 3 + 2, none⟩ = some (.int .i64 r.2.2) := by
    rcases open_slice Tryz.underlying110 h with ⟨hcs, _⟩ | ⟨a', len', cap', m, n, D, Pl, hcs, _, hl, hm, hmm, _, hcell⟩
    · simp at hcs
      obtain ⟨rfl, rfl, rfl⟩ := hcs
      exact fun i => ⟨(0, 0, 0), fun hi => absurd hi (Nat.not_lt_zero _)⟩
    · simp at hcs
      obtain ⟨rfl, rfl, rfl⟩ := hcs
      simp only [if_true] at hmm
      intro i
      by_cases hi : i < len
      · obtain ⟨cs, h1, h2⟩ := hcell i (by omega)
        rw [cells14Rw] at h1
        obtain ⟨_, hlen, hc⟩ := World.cells?_some h1
        obtain ⟨y0, y1, y2, k, _, _, t0, t1, t2⟩ := trod_struct3 Tryz.underlying177 h2
        match cs, hlen with
        | [v0, v1, v2], _ =>
          simp [cells14I] at t0 t1 t2
          obtain ⟨z0, e0, _, _⟩ := DataW.trod_int Tryz.underlying3 t0
          obtain ⟨z1, e1, _, _⟩ := DataW.trod_int Tryz.underlying3 t1
          obtain ⟨z2, e2, _, _⟩ := DataW.trod_int Tryz.underlying3 t2
          simp at e0 e1 e2
          subst e0; subst e1; subst e2
          obtain ⟨b, off, spot⟩ := a'
          have c0 := hc 0 (by omega)
          have c1 := hc 1 (by omega)
          have c2 := hc 2 (by omega)
          have hspot : spot = none := by
            obtain ⟨cs0, q1, _⟩ := hcell 0 (by omega)
            rw [cells14Rw] at q1
            obtain ⟨_, hlen0, hc0⟩ := World.cells?_some q1
            have q2 := hc0 0 (by omega)
            rw [List.getElem?_eq_getElem (by omega)] at q2
            simpa [Addr.add] using World.cell?_spot q2
          subst hspot
          simp only [add_plain] at c0 c1 c2
          exact ⟨(z0, z1, z2), fun _ => ⟨b, off, rfl, World.block_lt_of_cell? _ _ c0, c0, c1, c2⟩⟩
      · exact ⟨(0, 0, 0), fun e => absurd e hi⟩
  obtain ⟨R, hR⟩ := Classical.axiomOfChoice hp
  exact ⟨R, fun i hi => hR i hi⟩
end Go.Proofs.YtdghgmaoamjnlaaGreat
