/-
  A whole struct stored into a box of its own, or read out of it, as one step of the walk.
-/
import Derived.Test.YtclcmabohpoaiaaFltOrdAll
import Derived.Deep.MidRow
namespace Go.Proofs.Ytclcmabohpoaiaa
open Go.RowKit Go.Sort

theorem BoxAt.there0 {w : World} {b : Nat} {l : List Value} {n : Nat} (h : BoxAt w b l) (hn : n = l.length) : w.there b 0 n := fun j hj => by
  rw [Nat.zero_add]; subst hn
  exact ⟨by rw [h.cell j _ (List.getElem?_eq_getElem hj)]; rfl, h.fz j hj⟩
theorem BoxAt.range0 {w : World} {b : Nat} {l : List Value} (h : BoxAt w b l) : w.rangeAt b 0 l := fun j v hv => by
  rw [Nat.zero_add]; exact h.cell j v hv
/-- A part of a box. -/
theorem BoxAt.range {w : World} {b : Nat} {l : List Value} (h : BoxAt w b l) (o : Nat) (cs : List Value) (hc : ∀ j, j < cs.length → l[o + j]? = cs[j]?) : w.rangeAt b o cs := fun j v hv => by
  refine h.cell (o + j) v ?_
  rw [hc j (List.getElem?_eq_some_iff.1 hv).1]; exact hv
/-- THE STORE. -/
theorem wpList_store_box {P : Program} {ops : Array Oper} {rest : List Oper} {o : Oper} {a : Act} {Q : Exit → Act → World → Prop} (w : World) (hg : o.guard = none) (T : TypeId) (s x : Operand) (hop : o.op = Op.store T s x) (hd : o.dst = none)
    (b : Nat) (vs : List Value) (hs : a.eval s = .pointer (some ⟨b, 0, none⟩)) (hx : a.eval x = .agg vs.toArray) (hi : (P.info? T).map (·.size) = some vs.length) (h1 : vs.all (·.oneCell') = true)
    {l : List Value} (hB : BoxAt w b l) (hl : l.length = vs.length)
    (hK : ∀ W, BoxAt W b vs → But (fun j => j = b) w W → wpList P ops Q rest a W) : wpList P ops Q (o :: rest) a w := by
  have hall : vs.toArray.all (·.oneCell') = true := by rw [List.all_toArray]; exact h1
  refine wpList_store_mid hg T s x hop b 0 vs.toArray hs hx (hB.there0 (by simp; omega)) (by rw [hi]; simp) hall ?_
  rw [hd]
  exact hK _ (box_cells hB hl) (but_setCells b vs 0 w w (But.refl _ w))
/-- THE LOAD. -/
theorem wpList_load_box {P : Program} {ops : Array Oper} {rest : List Oper} {o : Oper} {a : Act} {Q : Exit → Act → World → Prop} (w : World) (hg : o.guard = none) (T : TypeId) (x : Operand) (hop : o.op = Op.load T x)
    (b off : Nat) (cs : List Value) (hx : a.eval x = .pointer (some ⟨b, off, none⟩)) {d : TypeDesc} (hu : P.underlying T = some d) (hdr : d.isRow = true) (hi : (P.info? T).map (·.size) = some cs.length)
    {l : List Value} (hB : BoxAt w b l) (hc : ∀ j, j < cs.length → l[off + j]? = cs[j]?)
    (hK : wpList P ops Q rest (a.put o.dst (.agg cs.toArray)) w) : wpList P ops Q (o :: rest) a w :=
  wpList_load_mid hg T x hop b off hx cs d (hB.range off cs hc) hu hdr hi hK
end Go.Proofs.Ytclcmabohpoaiaa
