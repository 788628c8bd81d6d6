/-
  A whole struct stored into a box of its own, or read out of it, as one step of the walk.
  Layer 13: an engine in memory; a new one: contracts.
  Layer 6's reference: the operations of a kind: contract.
  Layer 6: Check: contracts.
  Slices that are nil or lie at the beginning of a block of their own, by their cells one behind the other: appending, copying.
  Slices of items: copying.
  Layer 5: values, cells, memories: what they hold; copies: contracts.
  Layer 5: a memory: what it holds, and its calls: contracts.
  Layer 5: a memory is written: contracts.
  Layer 5: Force, Write: contracts.
  Layer 5: Write: contracts.
  An operation under way, as it lies in memory; what a step of a machine comes to.
  Layer 6: draws: contract.
-/
import Derived.Test.YtbcmilfajeanbaaGreatKNew9All
import Derived.Deep.MidRow
namespace Go.Proofs.YtbcmilfajeanbaaGreat
open Go.RowKit Go.Sort

theorem BoxAt.there0 {w : World} {b : Nat} {l : List Value} {n : Nat} (h : BoxAt w b l) (hn : n = l.length) : w.there b 0 n := fun j hj => by
  rw [Nat.zero_add]; subst hn
  exact ⟨by rw [h.cell j _ (List.getElem?_eq_getElem hj)]; rfl, h.fz j hj⟩
theorem BoxAt.range0 {w : World} {b : Nat} {l : List Value} (h : BoxAt w b l) : w.rangeAt b 0 l := fun j v hv => by
  rw [Nat.zero_add]; exact h.cell j v hv
/-- A part of a box. -/
theorem BoxAt.range {w : World} {b : Nat} {l : List Value} (h : BoxAt w b l) (o : Nat) (cs : List Value) (hc : ∀ j, j < cs.length → l[o + j]? = cs[j]?) : w.rangeAt b o cs := fun j v hv => by
  refine h.cell (o + j) v ?_
  rw [hc j (List.getElem?_eq_some_iff.1 hv).1]; exact hv
/-- THE STORE. -/
theorem wpList_store_box {P : Program} {ops : Array Oper} {rest : List Oper} {o : Oper} {a : Act} {Q : Exit → Act → World → Prop} (w : World) (hg : o.guard = none) (T : TypeId) (s x : Operand) (hop : o.op = Op.store T s x) (hd : o.dst = none)
    (b : Nat) (vs : List Value) (hs : a.eval s = .pointer (some ⟨b, 0, none⟩)) (hx : a.eval x = .agg vs.toArray) (hi : (P.info? T).map (·.size) = some vs.length) (h1 : vs.all (·.oneCell') = true)
    {l : List Value} (hB : BoxAt w b l) (hl : l.length = vs.length)
    (hK : ∀ W, BoxAt W b vs → But (fun j => j = b) w W → wpList P ops Q rest a W) : wpList P ops Q (o :: rest) a w := by
  have hall : vs.toArray.all (·.oneCell') = true := by rw [List.all_toArray]; exact h1
  refine wpList_store_mid hg T s x hop b 0 vs.toArray hs hx (hB.there0 (by simp; omega)) (by rw [hi]; simp) hall ?_
  rw [hd]
  exact hK _ (box_cells hB hl) (but_setCells b vs 0 w w (But.refl _ w))
/-- THE LOAD. -/
theorem wpList_load_box {P : Program} {ops : Array Oper} {rest : List Oper} {o : Oper} {a : Act} {Q : Exit → Act → World → Prop} (w : World) (hg : o.guard = none) (T : TypeId) (x : Operand) (hop : o.op = Op.load T x)
    (b off : Nat) (cs : List Value) (hx : a.eval x = .pointer (some ⟨b, off, none⟩)) {d : TypeDesc} (hu : P.underlying T = some d) (hdr : d.isRow = true) (hi : (P.info? T).map (·.size) = some cs.length)
    {l : List Value} (hB : BoxAt w b l) (hc : ∀ j, j < cs.length → l[off + j]? = cs[j]?)
    (hK : wpList P ops Q rest (a.put o.dst (.agg cs.toArray)) w) : wpList P ops Q (o :: rest) a w :=
  wpList_load_mid hg T x hop b off hx cs d (hB.range off cs hc) hu hdr hi hK
end Go.Proofs.YtbcmilfajeanbaaGreat

namespace Go.Proofs.YtbcmilfajeanbaaGreat
open Go.RowKit Go.Sort

/-- The pointer to a frame, or none. -/
abbrev eptr (q : Option Nat) : Value := .pointer (q.map fun fb => ⟨fb, 0, none⟩)
/-- An engine's cells: kind, parameter, machine, memory, whose frames, the gate, steps. -/
abbrev ecells (kind param : Int) (T : TypeId) (v : Value) (mb : Nat) (Q : Nat → Option Nat) (closed : Bool) (steps : Int) : List Value :=
  [.int .i64 kind, .int .i64 param, .iface T v, .pointer (some ⟨mb, 0, none⟩), eptr (Q 0), eptr (Q 1), eptr (Q 2), eptr (Q 3), eptr (Q 4), eptr (Q 5), .bool closed, .int .i64 steps]
theorem ecells_thread (kind param : Int) (T : TypeId) (v : Value) (mb : Nat) (Q : Nat → Option Nat) (closed : Bool) (steps : Int) (k : Nat) (hk : k < 6) : (ecells kind param T v mb Q closed steps)[4 + k]? = some (eptr (Q k)) := by
  have : k = 0 ∨ k = 1 ∨ k = 2 ∨ k = 3 ∨ k = 4 ∨ k = 5 := by omega
  rcases this with rfl | rfl | rfl | rfl | rfl | rfl <;> rfl
/-- Whose frames, with one anew. -/
def qset (Q : Nat → Option Nat) (k : Nat) (q : Option Nat) : Nat → Option Nat := fun j => if j = k then q else Q j
theorem qset_same (Q : Nat → Option Nat) (k : Nat) (q : Option Nat) : qset Q k q k = q := if_pos rfl
theorem qset_other (Q : Nat → Option Nat) (k : Nat) (q : Option Nat) {j : Nat} (h : j ≠ k) : qset Q k q j = Q j := if_neg h
theorem ecells_set (kind param : Int) (T : TypeId) (v : Value) (mb : Nat) (Q : Nat → Option Nat) (closed : Bool) (steps : Int) (k : Nat) (hk : k < 6) (q : Option Nat) : (ecells kind param T v mb Q closed steps).set (4 + k) (eptr q) = ecells kind param T v mb (qset Q k q) closed steps := by
  have : k = 0 ∨ k = 1 ∨ k = 2 ∨ k = 3 ∨ k = 4 ∨ k = 5 := by omega
  rcases this with rfl | rfl | rfl | rfl | rfl | rfl <;> rfl

/-- How a machine is made: what it is (K), the error. -/
def MachEnd (K : Nat → TypeId → Value → World → Prop) (r : Int) (w : World) (e : Ending) (w' : World) : Prop :=
  ∃ T v, e = .returned (.tuple #[.iface T v, .int .i64 r]) ∧ K w.heap.size T v w' ∧ Below w.heap.size w w'

theorem machine1_any (p : Int) (w : World) : Calls Tryz.prog 51 #[.int .i64 1, .int .i64 p] w (MachEnd (fun _ T v _ => T = 147 ∧ (legal 1 p = 0 → v = .agg #[.int .i64 p])) (legal 1 p) w) := by
  have hN := fun w => mnew_any p w
  have hv : legal 1 p = 0 → (if legal 1 p = 0 then p else 0) = p := fun h => if_pos h
  generalize legal 1 p = r at *
  generalize (if r = 0 then p else 0) = v at *
  have HV := hidq hv
  clear hv
  go_enter Tryz.func51, Tryz.ntmps51
  go_wp2_with fail
  refine (hN _).mono ?_
  rintro e w1 ⟨rfl, hb⟩
  have HB := hidq hb
  clear hb hN
  go_wp2
  go_ret2
  exact ⟨_, _, rfl, ⟨rfl, fun h => by rw [HV.out h]⟩, HB.out⟩
theorem machine2_any (p : Int) (w : World) : Calls Tryz.prog 51 #[.int .i64 2, .int .i64 p] w (MachEnd (fun _ T v _ => T = 151 ∧ (legal 2 p = 0 → v = .agg #[.int .i64 p])) (legal 2 p) w) := by
  have hN := fun w => knew_any p w
  have hv : legal 2 p = 0 → knewV p = .agg #[.int .i64 p] := fun h => if_pos h
  generalize legal 2 p = r at *
  generalize knewV p = v at *
  have HV := hidq hv
  clear hv
  go_enter Tryz.func51, Tryz.ntmps51
  go_wp2_with fail
  refine (hN _).mono ?_
  rintro e w1 ⟨rfl, hb⟩
  have HB := hidq hb
  clear hb hN
  go_wp2
  go_ret2
  exact ⟨_, _, rfl, ⟨rfl, HV.out⟩, HB.out⟩
theorem machine3_any (p : Int) (w : World) : Calls Tryz.prog 51 #[.int .i64 3, .int .i64 p] w (MachEnd (fun _ T v _ => T = 155 ∧ (legal 3 p = 0 → v = .agg #[.int .i64 p])) (legal 3 p) w) := by
  have hN := fun w => tnew_any p w
  have hv : legal 3 p = 0 → (if legal 3 p = 0 then p else 0) = p := fun h => if_pos h
  generalize legal 3 p = r at *
  generalize (if r = 0 then p else 0) = v at *
  have HV := hidq hv
  clear hv
  go_enter Tryz.func51, Tryz.ntmps51
  go_wp2_with fail
  refine (hN _).mono ?_
  rintro e w1 ⟨rfl, hb⟩
  have HB := hidq hb
  clear hb hN
  go_wp2
  go_ret2
  exact ⟨_, _, rfl, ⟨rfl, fun h => by rw [HV.out h]⟩, HB.out⟩
end Go.Proofs.YtbcmilfajeanbaaGreat

namespace Go.Proofs.YtbcmilfajeanbaaGreat
open Go.RowKit

theorem rof_any (k : Int) (w : World) : Calls Tryz.prog 31 #[.int .i64 k] w fun e w' => e = .returned (.tuple #[.int .i64 (opFrom k), .int .i64 (opTo k)]) ∧ w' = w := by
  rcases kinds k with rfl | rfl | rfl | rfl | h
  · go_enter Tryz.func31, Tryz.ntmps31
    go_wp2
    go_ret2
    exact ⟨rfl, rfl⟩
  · go_enter Tryz.func31, Tryz.ntmps31
    go_wp2
    go_ret2
    exact ⟨rfl, rfl⟩
  · go_enter Tryz.func31, Tryz.ntmps31
    go_wp2
    go_ret2
    exact ⟨rfl, rfl⟩
  · go_enter Tryz.func31, Tryz.ntmps31
    go_wp2
    go_ret2
    exact ⟨rfl, rfl⟩
  · rw [(opl_none h).2.1, (opl_none h).2.2]
    obtain ⟨h1, h2, h3, h4⟩ := h
    go_enter Tryz.func31, Tryz.ntmps31
    go_wp2
    go_ret2
    exact ⟨rfl, rfl⟩
end Go.Proofs.YtbcmilfajeanbaaGreat

namespace Go.Proofs.YtbcmilfajeanbaaGreat
open Go.RowKit

theorem opindex_any (a : Option Addr) (cap n : Nat) (l : List Int) (x : Int) (w : World) (h : IntsAt w a l) (hl : l.length = n) (hn : n ≤ 1000) :
    Calls Tryz.prog 75 #[.slice a n cap, .int .i64 x] w fun e w' => ∃ r : Int, e = .returned (.int .i64 r) ∧ (0 ≤ r ↔ x ∈ l) ∧ w' = w := by
  have hn1 : (n : Int) ≤ 1000 := by omega
  have HL : Hid (l.length = n) := hl
  clear hl
  go_enter Tryz.func75, Tryz.ntmps75
  go_wp2
  go_loop [8] (fun s => ∃ k : Nat, k ≤ n ∧ s = .int .i64 (k : Int) ∧ ∀ j, j < k → ¬ x = l[j]!) (fun s => n - (intOf s).toNat)
  case atStart => exact ⟨0, Nat.zero_le _, rfl, fun j hj => absurd hj (Nat.not_lt_zero _)⟩
  case round =>
    obtain ⟨k, hk, rfl, hno⟩ := hrel
    by_cases hlt : k < n
    · obtain ⟨b, rfl, hb, hc⟩ := h k (by rw [HL]; exact hlt)
      have k1 : (k : Int) < (n : Int) := by omega
      have hm : l[k]! ∈ l := by rw [getElem!_pos l k (by rw [HL]; exact hlt)]; exact List.getElem_mem _
      by_cases e : x = l[k]!
      · have HX : Hid (x ∈ l) := by rw [e]; exact hm
        have HE : Hid (∀ _ : Unit, x = l[k]!) := fun _ => e
        have hcx : w.cell? ⟨b, k, none⟩ = some (.int .i64 x) := by rw [e]; exact hc
        clear e hc hno hm
        go_wp2
        go_ret
        exact ⟨k, rfl, ⟨fun _ => HX, fun _ => by omega⟩, rfl⟩
      · have HN : Hid (∀ j, j < k + 1 → ¬ x = l[j]!) := fun j hj => by
          rcases Nat.lt_succ_iff_lt_or_eq.1 hj with h1 | h1
          · exact hno j h1
          · rw [h1]; exact e
        generalize l[k]! = y at *
        have eb : (x == y) = false := by simpa using e
        clear e hno hm
        go_wp2
        go_round
        case rel => exact ⟨k + 1, by omega, by go_num, HN⟩
        case measure => simp [intOf]; omega
    · have hkn : k = n := by omega
      have HX : Hid (¬ x ∈ l) := fun hm => by
        obtain ⟨j, hj, ej⟩ := List.getElem_of_mem hm
        have := hno j (by rw [HL] at hj; omega)
        rw [getElem!_pos l j hj] at this
        exact this ej.symm
      have hd : decide ((k : Int) < (n : Int)) = false := decide_eq_false (by omega)
      clear hno hkn
      go_wp2
      go_ret
      exact ⟨-1, rfl, ⟨fun h => absurd h (by decide), fun h => absurd h HX⟩, rfl⟩

theorem contains_any (a : Option Addr) (cap n : Nat) (l : List Int) (x : Int) (w : World) (h : IntsAt w a l) (hl : l.length = n) (hn : n ≤ 1000) :
    Calls Tryz.prog 52 #[.slice a n cap, .int .i64 x] w fun e w' => e = .returned (.bool (decide (x ∈ l))) ∧ w' = w := by
  have hI := opindex_any a cap n l x w h hl hn
  clear h hl hn
  by_cases hx : x ∈ l
  · rw [decide_eq_true hx]
    go_enter Tryz.func52, Tryz.ntmps52
    go_wp2_with fail
    refine hI.mono ?_
    rintro e w' ⟨r, rfl, hr, hw⟩
    replace hw := hw.symm; subst hw
    have h0 := hr.2 hx
    clear hr hx hI
    go_wp2
    go_ret
    exact ⟨rfl, rfl⟩
  · rw [decide_eq_false hx]
    go_enter Tryz.func52, Tryz.ntmps52
    go_wp2_with fail
    refine hI.mono ?_
    rintro e w' ⟨r, rfl, hr, hw⟩
    replace hw := hw.symm; subst hw
    have h0 : decide (0 ≤ r) = false := decide_eq_false (fun h => hx (hr.1 h))
    clear hr hx hI
    go_wp2
    go_ret
    exact ⟨rfl, rfl⟩

/-- May it be done? -/
def chk (kind k v : Int) : Int := if ¬ (opFrom kind ≤ k ∧ k ≤ opTo kind) then 6 else if k = 5 ∧ (v < 0 ∨ 4294967296 < v) then 4 else 0
theorem chk6 {kind k v : Int} (h : ¬ (opFrom kind ≤ k ∧ k ≤ opTo kind)) : chk kind k v = 6 := if_pos h
theorem chk4 {kind k v : Int} (h : opFrom kind ≤ k ∧ k ≤ opTo kind) (h2 : k = 5 ∧ (v < 0 ∨ 4294967296 < v)) : chk kind k v = 4 := by unfold chk; rw [if_neg (fun e => e h), if_pos h2]
theorem chk0 {kind k v : Int} (h : opFrom kind ≤ k ∧ k ≤ opTo kind) (h2 : ¬ (k = 5 ∧ (v < 0 ∨ 4294967296 < v))) : chk kind k v = 0 := by unfold chk; rw [if_neg (fun e => e h), if_neg h2]

abbrev boxO (k : Int) (f : Nat) (v d0 d1 : Int) : Obj := .cells #[.int .i64 k, .float .f64 f, .int .i64 v, .int .i64 d0, .int .i64 d1] 43

set_option maxHeartbeats 2000000 in
theorem check_any (kind k v d0 d1 : Int) (f : Nat) (w : World) :
    Calls Tryz.prog 30 #[.agg #[.int .i64 k, .float .f64 f, .int .i64 v, .int .i64 d0, .int .i64 d1], .int .i64 kind] w fun e w' => e = .returned (.int .i64 (chk kind k v)) ∧ Below w.heap.size w w' := by
  have hO := fun w => of_any kind w
  have hC := fun a w h => contains_any a (opl kind).length _ (opl kind) k w h rfl (by have := (opl_length kind).2; omega)
  have hm := (op_rng kind).2.2.2.2 k
  generalize opl kind = l at *
  generalize l.length = n at *
  have hz : ∀ w1, Below (w.alloc (boxO k f v d0 d1)).drew.heap.size (w.alloc (boxO k f v d0 d1)).drew w1 → w1.cell? ⟨w.heap.size, 0, none⟩ = some (.int .i64 k) ∧ w1.cell? ⟨w.heap.size, 2, none⟩ = some (.int .i64 v) := fun w1 hb => by
    constructor
    · rw [hb.cell (p := ⟨w.heap.size, 0, none⟩) (by simp)]; simp
    · rw [hb.cell (p := ⟨w.heap.size, 2, none⟩) (by simp)]; simp
  have hB0 : ∀ w1, Below (w.alloc (boxO k f v d0 d1)).drew.heap.size (w.alloc (boxO k f v d0 d1)).drew w1 → Below w.heap.size w w1 := fun w1 hb =>
    (((Below.refl _ _).alloc (Nat.le_refl _) _).drew).trans (hb.mono (by simp))
  have hfin : opFrom kind ≤ k ∧ k ≤ opTo kind → Hid (∀ _ : Unit, decide (k ∈ l) = true) := fun h _ => decide_eq_true (hm.2 h)
  by_cases hin : opFrom kind ≤ k ∧ k ≤ opTo kind
  · rw [hfin hin ()] at hC
    by_cases h5 : k = 5
    · by_cases hv : v < 0
      · rw [chk4 hin ⟨h5, .inl hv⟩]
        subst h5
        clear hm hin hfin
        go_enter Tryz.func30, Tryz.ntmps30
        go_wp2
        go_region_with (first | (go_at_call 53; refine (hO _).mono ?_; rintro e w1 ⟨a, rfl, hi, hb⟩; obtain ⟨hz1, hz2⟩ := hz _ hb) | (go_at_call 52; refine (hC a _ hi).mono ?_; rintro e w1 ⟨rfl, hw⟩; replace hw := hw.symm; subst hw))
        all_goals go_wp2
        all_goals go_ret
        all_goals exact ⟨rfl, hB0 _ hb⟩
      · have hv0 : decide (v < 0) = false := decide_eq_false hv
        by_cases hv1 : 4294967296 < v
        · rw [chk4 hin ⟨h5, .inr hv1⟩]
          subst h5
          clear hm hin hfin hv
          go_enter Tryz.func30, Tryz.ntmps30
          go_wp2
          go_region_with (first | (go_at_call 53; refine (hO _).mono ?_; rintro e w1 ⟨a, rfl, hi, hb⟩; obtain ⟨hz1, hz2⟩ := hz _ hb) | (go_at_call 52; refine (hC a _ hi).mono ?_; rintro e w1 ⟨rfl, hw⟩; replace hw := hw.symm; subst hw))
          all_goals go_wp2
          all_goals go_ret
          all_goals exact ⟨rfl, hB0 _ hb⟩
        · rw [chk0 hin (fun e => e.2.elim hv hv1)]
          have hv2 : decide (4294967296 < v) = false := decide_eq_false hv1
          subst h5
          clear hm hin hfin hv hv1
          go_enter Tryz.func30, Tryz.ntmps30
          go_wp2
          go_region_with (first | (go_at_call 53; refine (hO _).mono ?_; rintro e w1 ⟨a, rfl, hi, hb⟩; obtain ⟨hz1, hz2⟩ := hz _ hb) | (go_at_call 52; refine (hC a _ hi).mono ?_; rintro e w1 ⟨rfl, hw⟩; replace hw := hw.symm; subst hw))
          all_goals go_wp2
          all_goals go_ret
          all_goals exact ⟨rfl, hB0 _ hb⟩
    · rw [chk0 hin (fun e => h5 e.1)]
      have hk5 : (k == 5) = false := by simpa using h5
      clear hm hin hfin h5
      go_enter Tryz.func30, Tryz.ntmps30
      go_wp2
      go_region_with (first | (go_at_call 53; refine (hO _).mono ?_; rintro e w1 ⟨a, rfl, hi, hb⟩; obtain ⟨hz1, hz2⟩ := hz _ hb) | (go_at_call 52; refine (hC a _ hi).mono ?_; rintro e w1 ⟨rfl, hw⟩; replace hw := hw.symm; subst hw))
      all_goals go_wp2
      all_goals go_ret
      all_goals exact ⟨rfl, hB0 _ hb⟩
  · rw [chk6 hin]
    have hd : decide (k ∈ l) = false := decide_eq_false (fun e => hin (hm.1 e))
    rw [hd] at hC
    clear hd hm hin hfin
    go_enter Tryz.func30, Tryz.ntmps30
    go_wp2
    go_region_with (first | (go_at_call 53; refine (hO _).mono ?_; rintro e w1 ⟨a, rfl, hi, hb⟩; obtain ⟨hz1, hz2⟩ := hz _ hb) | (go_at_call 52; refine (hC a _ hi).mono ?_; rintro e w1 ⟨rfl, hw⟩; replace hw := hw.symm; subst hw))
    all_goals go_wp2
    all_goals go_ret
    all_goals exact ⟨rfl, hB0 _ hb⟩
end Go.Proofs.YtbcmilfajeanbaaGreat

namespace Go.Proofs.YtbcmilfajeanbaaGreat
open Go.RowKit Go.Sort


/-- A slice of n elements of k cells each, l one behind the other. -/
def SlAt (k : Nat) (w : World) (a : Option Addr) (cap n : Nat) (l : List Value) : Prop :=
  (a = none ∧ n = 0 ∧ cap = 0 ∧ l = []) ∨ ∃ g, a = some ⟨g, 0, none⟩ ∧ Flat k w g cap n l
/-- The block of a slice. -/
def inB (a : Option Addr) (k : Nat) : Prop := ∃ x, a = some x ∧ x.block = k

section
variable {k cap n : Nat} {a : Option Addr} {l : List Value} {w w' : World} {S : Nat → Prop}
theorem SlAt.nil (k : Nat) (w : World) : SlAt k w none 0 0 [] := .inl ⟨rfl, rfl, rfl, rfl⟩
theorem SlAt.len (h : SlAt k w a cap n l) : l.length = n * k := by
  rcases h with ⟨_, rfl, _, rfl⟩ | ⟨g, _, h⟩
  · simp
  · exact h.len
theorem SlAt.but (h : SlAt k w a cap n l) (hb : But S w w') (hS : ∀ j, inB a j → ¬ S j) : SlAt k w' a cap n l := by
  rcases h with h | ⟨g, rfl, h⟩
  · exact .inl h
  · exact .inr ⟨g, rfl, h.but hb (hS g ⟨_, rfl, rfl⟩)⟩
theorem SlAt.below (h : SlAt k w a cap n l) (hb : Below w.heap.size w w') : SlAt k w' a cap n l := h.but (S := fun _ => False) (But.of_below hb) (fun _ _ e => e)
theorem SlAt.lt (h : SlAt k w a cap n l) : ∀ j, inB a j → j < w.heap.size := by
  rintro j ⟨x, hx, rfl⟩
  rcases h with ⟨h, _⟩ | ⟨g, h, hf⟩
  · rw [h] at hx; cases hx
  · rw [h] at hx; cases hx; exact hf.lt
theorem SlAt.le (h : SlAt k w a cap n l) : n ≤ cap := by
  rcases h with ⟨_, rfl, rfl, rfl⟩ | ⟨g, _, h⟩
  · exact Nat.le_refl _
  · exact h.le
theorem SlAt.cell (h : SlAt k w a cap n l) {t : Nat} {u : Value} (hu : l[t]? = some u) : ∃ g, a = some ⟨g, 0, none⟩ ∧ g < w.heap.size ∧ w.cell? ⟨g, t, none⟩ = some u := by
  rcases h with ⟨_, _, _, rfl⟩ | ⟨g, h, hf⟩
  · simp at hu
  · exact ⟨g, h, hf.lt, hf.cell t u hu⟩
theorem SlAt.src {P : Program} {tx e : TypeId} (h : SlAt k w a cap n l) (hk : P.underlying tx = some (.slice e)) : Src P k tx (.slice a n cap) n l w := by
  rcases h with ⟨rfl, rfl, rfl, rfl⟩ | ⟨g, rfl, hf⟩
  · exact Src.ofNil w hk 0
  · exact hf.src hk
end

/-- Appending onto nil. -/
theorem nil_append {P : Program} (k : Nat) (T E ty : TypeId) (i : TypeInfo) (z : Value) (hT : P.underlying T = some (.slice E)) (hi : P.info? E = some i) (hz : i.zero = some z) (hsz : i.size = k) (hzc : z.cells.size = k)
    (w : World) (x : Value) (m : Nat) (ys : List Value) (hs : Src P k T x m ys w) (hm : 0 < m) (hmx : m ≤ maxLen) (hby : m * i.bytes ≤ 140737488355328) :
    ∃ g' cap' w', (Builtin.append_ #[T, T] ty #[.slice none 0 0, x]).run P w = .ok (.slice (some ⟨g', 0, none⟩) m cap') w' ∧
      Flat k w' g' cap' m ys ∧ Below w.heap.size w w' ∧ w.heap.size ≤ g' := by
  subst hsz
  have hyl := hs.newsLen
  have hold : (Builtin.firstCells i.size 0 (.slice none 0 0)).run P w.drew = .ok ([] : List Value).toArray w.drew := run_firstCells_none w.drew i.size 0 0 0
  have h63 : ((0 + m : Nat) : Int) ≤ 9223372036854775807 := by unfold maxLen at hmx; omega
  have hr := run_append_grow_src (P := P) w T T ty E i z hT hi hz none 0 0 [] hold x m ys hs (by omega) h63 (growslice_fits (by omega) (by rw [Nat.zero_add]; exact hby))
  rw [Nat.zero_add] at hr
  have hge := grownCap_ge w m 0 E
  have hcm := grownCap_le_maxLen w m 0 E hmx
  generalize grownCap w m 0 E = C at hr hge hcm
  rw [List.nil_append] at hr
  have hc : ∀ j, (w.drew.alloc (.cells (ys.toArray ++ Builtin.zeroCells z.cells (C - m)) E)).cell? ⟨w.heap.size, j, none⟩ = (ys.toArray ++ Builtin.zeroCells z.cells (C - m))[j]? := fun j => World.cell?_alloc_new w.drew _ _ j
  refine ⟨w.heap.size, C, _, hr, ?_, ⟨rfl, rfl, rfl, by simp, fun j hj => Below.heap_alloc w.drew _ j hj⟩, Nat.le_refl _⟩
  refine ⟨by simp, hyl, hge, hcm, ?_, hs.one, ?_⟩
  · intro t u hu
    have ht : t < ys.length := (List.getElem?_eq_some_iff.1 hu).1
    rw [hc, Array.getElem?_append_left (by simpa using ht), List.getElem?_toArray]
    exact hu
  · intro j hj
    refine ⟨?_, World.frozen?_alloc_new w.drew _ _ _⟩
    rw [hc]
    have : j < (ys.toArray ++ Builtin.zeroCells z.cells (C - m)).size := by
      rw [Array.size_append, size_zeroCells, List.size_toArray, hyl]
      have e2 : m * i.size + (C - m) * i.size = C * i.size := by rw [← Nat.add_mul]; congr 1; omega
      rw [hzc]
      first | omega | (rw [Nat.mul_comm] at e2; omega)
    rw [Array.getElem?_eq_getElem this]; rfl

/-- Appending onto any such slice. -/
theorem sl_append {P : Program} {k : Nat} {T E : TypeId} (hp : PlainK P k T E) (ty : TypeId) (w : World) (a : Option Addr) (cap n : Nat) (l : List Value) (h : SlAt k w a cap n l) (x : Value) (m : Nat) (ys : List Value)
    (hs : Src P k T x m ys w) (hm : 0 < m) (hb : n + m ≤ 1099511627776) :
    ∃ g' cap' w', (Builtin.append_ #[T, T] ty #[.slice a n cap, x]).run P w = .ok (.slice (some ⟨g', 0, none⟩) (n + m) cap') w' ∧
      Flat k w' g' cap' (n + m) (l ++ ys) ∧ But (inB a) w w' ∧ (inB a g' ∨ w.heap.size ≤ g') := by
  obtain ⟨i, z, hT, hi, hz, hsz, hzc, hby⟩ := hp
  have hm2 : n + m ≤ maxLen := by unfold maxLen; omega
  have hb2 : (n + m) * i.bytes ≤ 140737488355328 := Nat.le_trans (Nat.mul_le_mul hb hby) (by decide)
  rcases h with ⟨rfl, rfl, rfl, rfl⟩ | ⟨g, rfl, hf⟩
  · rw [Nat.zero_add] at hm2 hb2 ⊢
    obtain ⟨g', cap', w', h1, h2, h3, h4⟩ := nil_append k T E ty i z hT hi hz hsz hzc w x m ys hs hm hm2 hb2
    exact ⟨g', cap', w', h1, by rw [List.nil_append]; exact h2, But.of_below h3, .inr h4⟩
  · obtain ⟨g', cap', w', h1, h2, h3, h4⟩ := flat_append k T E ty i z hT hi hz hsz hzc w g cap n l hf x m ys hs hm2 hb2
    refine ⟨g', cap', w', h1, h2, h3.mono (fun j _ e => ⟨_, rfl, e.symm⟩), h4.imp (fun e => ⟨_, rfl, e.symm⟩) id⟩

theorem wpList_sl {P : Program} {k : Nat} {T E : TypeId} (hp : PlainK P k T E) (w : World) {ops : Array Oper} {rest : List Oper} {o : Oper} {a : Act} {Q : Exit → Act → World → Prop}
    (hg : o.guard = none) (s x : Operand) (hop : o.op = Op.call { callee := Callee.builtin Builtin.append, args := #[s, x], argTypes := #[T, T] })
    (b : Option Addr) (cap n : Nat) (l : List Value) (hs : a.eval s = .slice b n cap) (hF : SlAt k w b cap n l) (xv : Value) (hx : a.eval x = xv) (m : Nat) (ys : List Value)
    (hsrc : Src P k T xv m ys w) (hm : 0 < m) (hb : n + m ≤ 1099511627776)
    (hK : ∀ g' cap' w', Flat k w' g' cap' (n + m) (l ++ ys) → But (inB b) w w' → (inB b g' ∨ w.heap.size ≤ g') → wpList P ops Q rest (a.put o.dst (.slice (some ⟨g', 0, none⟩) (n + m) cap')) w') : wpList P ops Q (o :: rest) a w := by
  refine wpList_plain hg fun K hK' => ?_
  obtain ⟨g', cap', w', hrun, r1, r2, r3⟩ := sl_append hp o.type w b cap n l hF xv m ys hsrc hm hb
  unfold Oper.wp
  simp [execOp, hop, resolve, invoke, builtin, hs, hx, hrun, Result.andThen]
  exact hK' _ _ (hK g' cap' w' r1 r2 r3)

/-- One element, laid in a block of its own. -/
theorem src_new {P : Program} {T E : TypeId} (k : Nat) (w : World) (hk : P.underlying T = some (.slice E)) (b : Nat) (us : List Value) (hl : us.length = k) (hc : ∀ j u, us[j]? = some u → w.cell? ⟨b, j, none⟩ = some u) (h1 : ∀ u ∈ us, u.oneCell' = true) :
    Src P k T (.slice (some ⟨b, 0, none⟩) 1 1) 1 us w :=
  Src.ofSlice w hk _ 1 1 us (by rw [hl, Nat.one_mul]) (fun j u hu => by rw [Addr.add_lit, Nat.zero_add]; exact hc j u hu) h1

end Go.Proofs.YtbcmilfajeanbaaGreat

namespace Go.Proofs.YtbcmilfajeanbaaGreat
open Go.RowKit Go.Sort

/-! Items: their bits and values. -/
abbrev It := Nat × Int
def encI (x : It) : List Value := [.float .f64 x.1, .int .i64 x.2]
def flatI (L : List It) : List Value := L.flatMap encI
theorem flatI_length (L : List It) : (flatI L).length = L.length * 2 := by
  induction L with
  | nil => rfl
  | cons x L ih => simp only [flatI, List.flatMap_cons, List.length_append, List.length_cons] at *; rw [ih]; simp [encI]; omega
theorem flatI_append (L M : List It) : flatI (L ++ M) = flatI L ++ flatI M := by simp [flatI]
theorem flatI_get : ∀ (L : List It) (i : Nat) (h : i < L.length), (flatI L)[i * 2]? = some (.float .f64 L[i].1) ∧ (flatI L)[i * 2 + 1]? = some (.int .i64 L[i].2)
  | x :: L, 0, h => ⟨rfl, rfl⟩
  | x :: L, i + 1, h => by
    have := flatI_get L i (by simpa using h)
    simp only [List.getElem_cons_succ]
    have e : flatI (x :: L) = .float .f64 x.1 :: .int .i64 x.2 :: flatI L := rfl
    rw [e, show (i + 1) * 2 = i * 2 + 1 + 1 by omega]
    exact this
theorem flatI_one (L : List It) : ∀ u ∈ flatI L, u.oneCell' = true := by
  intro u hu
  simp only [flatI, List.mem_flatMap, encI] at hu
  obtain ⟨x, _, hx⟩ := hu
  simp at hx
  rcases hx with rfl | rfl <;> rfl
theorem plainI : PlainK Tryz.prog 2 52 40 := by
  have h : (Tryz.prog.info? 40).map (fun i => (i.zero, i.size, i.bytes)) = some (some (.agg #[.float .f64 0, .int .i64 0]), 2, 16) := by kernel_rfl
  obtain ⟨i, hi, he⟩ := Option.map_eq_some_iff.1 h
  simp only [Prod.mk.injEq] at he
  exact ⟨i, _, Tryz.underlying52, hi, he.1, he.2.1, rfl, by rw [he.2.2]; decide⟩

/-- slices.Clone of items. -/
theorem sclone_any (a : Option Addr) (cap n : Nat) (l : List Value) (w : World) (h : SlAt 2 w a cap n l) (hn : n ≤ 1000000) :
    Calls Tryz.prog 115 #[.slice a n cap] w fun e w' => ∃ a' cap', e = .returned (.slice a' n cap') ∧ SlAt 2 w' a' cap' n l ∧ (∀ j, inB a' j → w.heap.size ≤ j) ∧ Below w.heap.size w w' := by
  have hq := fun w a n c => Lib.run_eql_slice_nil (P := Tryz.prog) w 52 40 a n c 0 0 Tryz.underlying52
  rcases h with ⟨rfl, rfl, rfl, rfl⟩ | ⟨g, rfl, hf⟩
  · go_enter Tryz.func115, Tryz.ntmps115
    go_wp2
    go_ret
    exact ⟨none, 0, rfl, SlAt.nil _ _, (fun j e => by obtain ⟨x, hx, _⟩ := e; cases hx), Below.refl _ _⟩
  · have hF := hidq hf
    have hlt := hf.lt
    go_enter Tryz.func115, Tryz.ntmps115
    clear hf
    go_wp2_with (at_builtin; refine wpList_flat plainI _ rfl (.tmp 5) (.tmp 6) rfl w.heap.size 0 0 [] rfl (Flat.new w [] 40 2 0 rfl (Nat.zero_le _) (fun _ h => (by cases h))) _ rfl n l ((hF.out.but (S := fun _ => False) ((But.refl _ _).alloc _) id).src Tryz.underlying52) (by omega) ?_; intro g2 cap2 w2 hF2 hb2 hg2)
    go_ret
    first | rw [Nat.zero_add, List.nil_append] at hF2 | rw [List.nil_append] at hF2 | skip
    refine ⟨some ⟨g2, 0, none⟩, cap2, rfl, .inr ⟨g2, rfl, hF2⟩, ?_, ?_⟩
    · rintro j ⟨x, hx, rfl⟩
      cases hx
      simp at hg2
      show w.heap.size ≤ g2
      omega
    · exact (((But.refl (fun k => k = w.heap.size) w).alloc _).trans hb2).below (Nat.le_refl _) (fun k e => by omega)
end Go.Proofs.YtbcmilfajeanbaaGreat

namespace Go.Proofs.YtbcmilfajeanbaaGreat
open Go.RowKit Go.Sort

/-- A value in a box. -/
abbrev boxV (n : Int) (s : Value) : Obj := .cells #[.int .i64 n, s] 92

theorem vclone_any (x : Int) (a : Option Addr) (cap n : Nat) (l : List Value) (w : World) (h : SlAt 2 w a cap n l) (hn : n ≤ 1000000) :
    Calls Tryz.prog 101 #[.agg #[.int .i64 x, .slice a n cap]] w fun e w' => ∃ a' cap', e = .returned (.agg #[.int .i64 x, .slice a' n cap']) ∧ SlAt 2 w' a' cap' n l ∧ (∀ j, inB a' j → w.heap.size ≤ j) ∧ Below w.heap.size w w' := by
  have hC := hidq (sclone_any a cap n l ((w.alloc (boxV x (.slice a n cap))).alloc (boxV 0 (.slice none 0 0))) (h.but (S := fun _ => False) (((But.refl _ _).alloc _).alloc _) (fun _ _ e => e)) hn)
  clear h
  go_enter Tryz.func101, Tryz.ntmps101
  go_wp2_with fail
  refine hC.out.mono ?_
  rintro e w1 ⟨a', cap', rfl, hS, hf, hb⟩
  have HS := hidq hS
  have HF := hidq hf
  clear hS hf
  have hz : w.heap.size + 1 < w1.heap.size := by have := hb.size; simp at this; omega
  have c0 : w1.cell? ⟨w.heap.size, 0, none⟩ = some (.int .i64 x) := by rw [hb.cell (p := ⟨w.heap.size, 0, none⟩) (by simp; omega)]; simp
  have c1 : w1.cell? ⟨w.heap.size, 1, none⟩ = some (.slice a n cap) := by rw [hb.cell (p := ⟨w.heap.size, 1, none⟩) (by simp; omega)]; simp
  have d0 : w1.cell? ⟨w.heap.size + 1, 0, none⟩ = some (.int .i64 0) := by rw [hb.cell (p := ⟨w.heap.size + 1, 0, none⟩) (by simp)]; simp
  have d1 : w1.cell? ⟨w.heap.size + 1, 1, none⟩ = some (.slice none 0 0) := by rw [hb.cell (p := ⟨w.heap.size + 1, 1, none⟩) (by simp)]; simp
  have z1 : w1.frozen? ⟨w.heap.size, 1, none⟩ = false := by rw [hb.frozen (p := ⟨w.heap.size, 1, none⟩) (by simp; omega)]; simp
  have y0 : w1.frozen? ⟨w.heap.size + 1, 0, none⟩ = false := by rw [hb.frozen (p := ⟨w.heap.size + 1, 0, none⟩) (by simp)]; simp
  have y1 : w1.frozen? ⟨w.heap.size + 1, 1, none⟩ = false := by rw [hb.frozen (p := ⟨w.heap.size + 1, 1, none⟩) (by simp)]; simp
  have hb0 : Below w.heap.size w w1 := (((Below.refl _ _).alloc (Nat.le_refl _) _).alloc (by simp) _).trans (hb.mono (by simp; omega))
  have hfin : ∀ w2, But (fun k => k = w.heap.size ∨ k = w.heap.size + 1) w1 w2 → SlAt 2 w2 a' cap' n l ∧ (∀ j, inB a' j → w.heap.size ≤ j) ∧ Below w.heap.size w w2 := fun w2 h2 =>
    ⟨HS.out.but h2 (fun j hj e => by have := HF.out j hj; simp at this; omega), fun j hj => by have := HF.out j hj; simp at this; omega, hb0.trans (h2.below hb0.size (fun k e => by omega))⟩
  have HFIN := hidq hfin
  clear hb hb0 hfin
  go_wp2
  refine bodyPost_ret (v := .agg #[.int .i64 x, .slice a' n cap']) (by simp [results, Tryz.results101, go_sem, d0, d1]) rfl ⟨a', cap', rfl, HFIN.out _ ?_⟩
  exact (((But.refl _ _).set1 _ _ (.inl rfl) _).set1 _ _ (.inr rfl) _).set1 _ _ (.inr rfl) _

abbrev boxC (v x : Int) (s : Value) : Obj := .cells #[.int .u64 v, .int .i64 x, s] 94
set_option maxHeartbeats 1000000 in
theorem copied_any (v x : Int) (a : Option Addr) (cap n : Nat) (l : List Value) (w : World) (h : SlAt 2 w a cap n l) (hn : n ≤ 1000000) :
    Calls Tryz.prog 91 #[.agg #[.int .u64 v, .int .i64 x, .slice a n cap]] w fun e w' => ∃ a' cap', e = .returned (.agg #[.int .u64 v, .int .i64 x, .slice a' n cap']) ∧ SlAt 2 w' a' cap' n l ∧ (∀ j, inB a' j → w.heap.size ≤ j) ∧ Below w.heap.size w w' := by
  have hC := hidq (fun W (hW : But (fun _ => False) w W) => vclone_any x a cap n l W (h.but hW (fun _ _ e => e)) hn)
  have hfin : ∀ a' cap' w1 w2, SlAt 2 w1 a' cap' n l → (∀ j, inB a' j → w.heap.size + 2 ≤ j) → Below (w.heap.size + 2) ((w.alloc (boxC v x (.slice a n cap))).alloc (boxC 0 0 (.slice none 0 0))) w1 → But (fun k => k = w.heap.size ∨ k = w.heap.size + 1) w1 w2 → SlAt 2 w2 a' cap' n l ∧ (∀ j, inB a' j → w.heap.size ≤ j) ∧ Below w.heap.size w w2 := fun a' cap' w1 w2 hS hF hb h2 => by
    have hb0 : Below w.heap.size w w1 := (((Below.refl _ _).alloc (Nat.le_refl _) _).alloc (by simp) _).trans (hb.mono (by omega))
    exact ⟨hS.but h2 (fun j hj e => by have := hF j hj; omega), fun j hj => by have := hF j hj; omega, hb0.trans (h2.below hb0.size (fun k e => by omega))⟩
  have hcells : ∀ w1, Below (w.heap.size + 2) ((w.alloc (boxC v x (.slice a n cap))).alloc (boxC 0 0 (.slice none 0 0))) w1 →
      (w.heap.size + 1 < w1.heap.size ∧ w1.cell? ⟨w.heap.size, 0, none⟩ = some (.int .u64 v)) ∧ (w1.cell? ⟨w.heap.size + 1, 0, none⟩ = some (.int .u64 0) ∧ w1.cell? ⟨w.heap.size + 1, 1, none⟩ = some (.int .i64 0) ∧ w1.cell? ⟨w.heap.size + 1, 2, none⟩ = some (.slice none 0 0)) ∧
      w1.frozen? ⟨w.heap.size + 1, 0, none⟩ = false ∧ w1.frozen? ⟨w.heap.size + 1, 1, none⟩ = false ∧ w1.frozen? ⟨w.heap.size + 1, 2, none⟩ = false := fun w1 hb => by
    refine ⟨⟨by have := hb.size; simp at this; omega, ?_⟩, ⟨?_, ?_, ?_⟩, ?_, ?_, ?_⟩
    · rw [hb.cell (p := ⟨w.heap.size, 0, none⟩) (by simp)]; simp
    · rw [hb.cell (p := ⟨w.heap.size + 1, 0, none⟩) (by simp)]; simp
    · rw [hb.cell (p := ⟨w.heap.size + 1, 1, none⟩) (by simp)]; simp
    · rw [hb.cell (p := ⟨w.heap.size + 1, 2, none⟩) (by simp)]; simp
    · rw [hb.frozen (p := ⟨w.heap.size + 1, 0, none⟩) (by simp)]; simp
    · rw [hb.frozen (p := ⟨w.heap.size + 1, 1, none⟩) (by simp)]; simp
    · rw [hb.frozen (p := ⟨w.heap.size + 1, 2, none⟩) (by simp)]; simp
  have HFIN := hidq hfin
  have HCEL := hidq hcells
  have hsz : ((w.alloc (boxC v x (.slice a n cap))).alloc (boxC 0 0 (.slice none 0 0))).drew.heap.size = w.heap.size + 2 := by simp
  have HSZ := hidq hsz
  clear h hfin hcells hsz
  go_enter Tryz.func91, Tryz.ntmps91
  go_wp2
  go_region_with (go_at_call 101; refine (hC.out _ (((But.refl _ w).alloc _).alloc _).drew).mono ?_; rintro e w1 ⟨a', cap', rfl, hS, hf, hb⟩; have HS := hidq hS; rw [HSZ.out] at hf hb; have HF := hidq hf; have HB := hidq hb; obtain ⟨⟨hz, c0⟩, ⟨d0, d1, d2⟩, z0, z1, z2⟩ := HCEL.out w1 (by exact ⟨hb.os, hb.tape, hb.output, hb.size, hb.block⟩); clear hS hf hb)
  all_goals go_wp2
  all_goals refine bodyPost_ret (v := .agg #[.int .u64 v, .int .i64 x, .slice a' n cap']) (by simp [results, Tryz.results91, go_sem, d0, d1, d2]) rfl ⟨a', cap', rfl, HFIN.out _ _ w1 _ HS.out HF.out ?_ ?_⟩
  all_goals first
    | exact ⟨HB.out.os, HB.out.tape, HB.out.output, HB.out.size, HB.out.block⟩
    | exact (((But.refl _ _).set1 _ _ (.inr rfl) _).set1 _ _ (.inr rfl) _).set1 _ _ (.inr rfl) _
end Go.Proofs.YtbcmilfajeanbaaGreat

namespace Go.Proofs.YtbcmilfajeanbaaGreat
open Go.RowKit Go.Sort

/-- A cell: its version, its number, its items. -/
structure CV where
  ver : Int
  n : Int
  L : List It
def CV.zero : CV := ⟨0, 0, []⟩
/-- A memory: how many cells, each of them, how many writes. -/
structure Mem where
  len : Nat
  cell : Nat → CV
  clock : Nat
def Mem.empty : Mem := ⟨0, fun _ => CV.zero, 0⟩
def Mem.reach (M : Mem) (n : Nat) : Mem := { M with len := max M.len n }
def Mem.put (M : Mem) (i : Nat) (n : Int) (L : List It) : Mem := ⟨max M.len (i + 1), fun j => if j = i then ⟨((M.clock + 1 : Nat) : Int), n, L⟩ else M.cell j, M.clock + 1⟩

def cellC (M : Mem) (A : Nat → Option Addr) (C : Nat → Nat) (t : Nat) : Value :=
  if t % 3 = 0 then .int .u64 (M.cell (t / 3)).ver else if t % 3 = 1 then .int .i64 (M.cell (t / 3)).n else .slice (A (t / 3)) (M.cell (t / 3)).L.length (C (t / 3))
def flatC (M : Mem) (A : Nat → Option Addr) (C : Nat → Nat) : List Value := (List.range (M.len * 3)).map (cellC M A C)
theorem flatC_length (M : Mem) (A : Nat → Option Addr) (C : Nat → Nat) : (flatC M A C).length = M.len * 3 := by simp [flatC]
theorem flatC_get (M : Mem) (A : Nat → Option Addr) (C : Nat → Nat) (t : Nat) (h : t < M.len * 3) : (flatC M A C)[t]? = some (cellC M A C t) := by simp [flatC, h]
theorem flatC_0 (M : Mem) (A : Nat → Option Addr) (C : Nat → Nat) (i : Nat) (h : i < M.len) : (flatC M A C)[i * 3]? = some (.int .u64 (M.cell i).ver) := by
  rw [flatC_get M A C _ (by omega)]; unfold cellC; rw [if_pos (by omega), show i * 3 / 3 = i by omega]
theorem flatC_1 (M : Mem) (A : Nat → Option Addr) (C : Nat → Nat) (i : Nat) (h : i < M.len) : (flatC M A C)[i * 3 + 1]? = some (.int .i64 (M.cell i).n) := by
  rw [flatC_get M A C _ (by omega)]; unfold cellC; rw [if_neg (by omega), if_pos (by omega), show (i * 3 + 1) / 3 = i by omega]
theorem flatC_2 (M : Mem) (A : Nat → Option Addr) (C : Nat → Nat) (i : Nat) (h : i < M.len) : (flatC M A C)[i * 3 + 2]? = some (.slice (A i) (M.cell i).L.length (C i)) := by
  rw [flatC_get M A C _ (by omega)]; unfold cellC; rw [if_neg (by omega), if_neg (by omega), show (i * 3 + 2) / 3 = i by omega]

/-- The row of a memory's cells, and their items. -/
structure RowC (w : World) (b : Nat) (O : Nat → Prop) (M : Mem) (a : Option Addr) (cap : Nat) (A : Nat → Option Addr) (C : Nat → Nat) : Prop where
  hd : w.cell? ⟨b, 0, none⟩ = some (.slice a M.len cap)
  sl : SlAt 3 w a cap M.len (flatC M A C)
  own : ∀ j, inB a j → O j ∧ j ≠ b
  its : ∀ i, i < M.len → SlAt 2 w (A i) (C i) (M.cell i).L.length (flatI (M.cell i).L)
  ito : ∀ i, i < M.len → ∀ j, inB (A i) j → O j ∧ j ≠ b ∧ ¬ inB a j
structure MemAt (w : World) (b : Nat) (O : Nat → Prop) (M : Mem) : Prop where
  ob : O b
  lt : ∀ k, O k → k < w.heap.size
  row : ∃ a cap A C, RowC w b O M a cap A C
  clk : w.cell? ⟨b, 1, none⟩ = some (.int .u64 (M.clock : Int))
  fz0 : w.frozen? ⟨b, 0, none⟩ = false
  fz1 : w.frozen? ⟨b, 1, none⟩ = false
  max : M.len ≤ 1000
  rest : ∀ i, M.len ≤ i → M.cell i = CV.zero
  few : ∀ i, (M.cell i).L.length ≤ 1000000

section
variable {w w' : World} {b : Nat} {O S : Nat → Prop} {M : Mem}
theorem RowC.but {a : Option Addr} {cap : Nat} {A : Nat → Option Addr} {C : Nat → Nat} (h : RowC w b O M a cap A C) (hl : b < w.heap.size) (hb : But S w w') (hS : ∀ k, O k → ¬ S k) (hO : O b) : RowC w' b O M a cap A C :=
  ⟨by rw [hb.cell (p := ⟨b, 0, none⟩) hl (hS b hO)]; exact h.hd, h.sl.but hb (fun j hj => hS j (h.own j hj).1), h.own, fun i hi => (h.its i hi).but hb (fun j hj => hS j (h.ito i hi j hj).1), h.ito⟩
theorem MemAt.but (h : MemAt w b O M) (hb : But S w w') (hS : ∀ k, O k → ¬ S k) : MemAt w' b O M := by
  have hl := h.lt b h.ob
  obtain ⟨a, cap, A, C, hr⟩ := h.row
  exact ⟨h.ob, fun k hk => Nat.lt_of_lt_of_le (h.lt k hk) hb.size, ⟨a, cap, A, C, hr.but hl hb hS h.ob⟩, by rw [hb.cell (p := ⟨b, 1, none⟩) hl (hS b h.ob)]; exact h.clk,
    by rw [hb.frozen (p := ⟨b, 0, none⟩) hl (hS b h.ob)]; exact h.fz0, by rw [hb.frozen (p := ⟨b, 1, none⟩) hl (hS b h.ob)]; exact h.fz1, h.max, h.rest, h.few⟩
theorem MemAt.below (h : MemAt w b O M) (hb : Below w.heap.size w w') : MemAt w' b O M := h.but (S := fun _ => False) (But.of_below hb) (fun _ _ e => e)
end

/-- What is owned, with what has come since. -/
def own' (O : Nat → Prop) (w w' : World) (k : Nat) : Prop := O k ∨ (w.heap.size ≤ k ∧ k < w'.heap.size)

theorem new5_any (w : World) : Calls Tryz.prog 29 #[] w fun e w' => e = .returned (.pointer (some ⟨w.heap.size, 0, none⟩)) ∧ MemAt w' w.heap.size (fun k => k = w.heap.size) Mem.empty ∧ Below w.heap.size w w' := by
  go_enter Tryz.func29, Tryz.ntmps29
  go_wp2
  go_ret
  refine ⟨rfl, ⟨rfl, fun k hk => by rw [hk]; simp, ⟨none, 0, fun _ => none, fun _ => 0, ?_⟩, ?_, ?_, ?_, Nat.zero_le _, fun _ _ => rfl, fun _ => Nat.zero_le _⟩, (Below.refl _ _).alloc (Nat.le_refl _) _⟩
  · refine ⟨by rw [World.cell?_alloc_new]; rfl, SlAt.nil _ _, (fun j hj => by obtain ⟨x, hx, _⟩ := hj; cases hx), fun i hi => absurd hi (Nat.not_lt_zero _), fun i hi => absurd hi (Nat.not_lt_zero _)⟩
  · rw [World.cell?_alloc_new]; rfl
  · exact World.frozen?_alloc_new w _ _ _
  · exact World.frozen?_alloc_new w _ _ _
/-- The cell of a number, or a zero one. -/
def Mem.look (M : Mem) (i : Int) : CV := if i < 0 then CV.zero else M.cell i.toNat
theorem look_neg {M : Mem} {i : Int} (h : i < 0) : M.look i = CV.zero := if_pos h
theorem look_nat {M : Mem} (i : Nat) : M.look (i : Int) = M.cell i := by unfold Mem.look; rw [if_neg (by omega)]; rfl

theorem version_any (b : Nat) (O : Nat → Prop) (M : Mem) (i : Int) (w : World) (h : MemAt w b O M) :
    Calls Tryz.prog 160 #[.pointer (some ⟨b, 0, none⟩), .int .i64 i] w fun e w' => e = .returned (.int .u64 (M.look i).ver) ∧ w' = w := by
  obtain ⟨a, cap, A, C, hr⟩ := h.row
  have hd := hr.hd
  have hmax := h.max
  by_cases h0 : i < 0
  · rw [look_neg h0]
    clear hr h
    go_enter Tryz.func160, Tryz.ntmps160
    go_wp2
    go_ret
    exact ⟨rfl, rfl⟩
  · have h0' : decide (i < 0) = false := decide_eq_false h0
    obtain ⟨k, rfl⟩ : ∃ k : Nat, i = (k : Int) := ⟨i.toNat, by omega⟩
    rw [look_nat]
    by_cases h1 : M.len ≤ k
    · rw [h.rest k h1]
      have h1i : (M.len : Int) ≤ (k : Int) := by omega
      clear hr h
      generalize M.len = n at *
      go_enter Tryz.func160, Tryz.ntmps160
      go_wp2
      go_ret
      exact ⟨rfl, rfl⟩
    · have h1' : decide ((M.len : Int) ≤ (k : Int)) = false := decide_eq_false (by omega)
      have h1i : (k : Int) < (M.len : Int) := by omega
      obtain ⟨g, rfl, hg, hc⟩ := hr.sl.cell (flatC_0 M A C k (by omega))
      have hle := hr.sl.le
      generalize (M.cell k).ver = v at *
      clear hr h
      generalize M.len = n at *
      go_enter Tryz.func160, Tryz.ntmps160
      go_wp2
      go_ret
      exact ⟨rfl, rfl⟩

theorem read5_any (b : Nat) (O : Nat → Prop) (M : Mem) (i : Int) (w : World) (h : MemAt w b O M) :
    Calls Tryz.prog 80 #[.pointer (some ⟨b, 0, none⟩), .int .i64 i] w fun e w' => ∃ a' cap', e = .returned (.agg #[.int .u64 (M.look i).ver, .int .i64 (M.look i).n, .slice a' (M.look i).L.length cap']) ∧
      SlAt 2 w' a' cap' (M.look i).L.length (flatI (M.look i).L) ∧ (∀ j, inB a' j → w.heap.size ≤ j) ∧ Below w.heap.size w w' := by
  obtain ⟨a, cap, A, C, hr⟩ := h.row
  have hd := hr.hd
  have hmax := h.max
  have hbl := h.lt b h.ob
  have hz : ∀ W, M.look i = CV.zero → Below w.heap.size w W → ∃ a' cap', Value.agg #[.int .u64 0, .int .i64 0, .slice none 0 0] = Value.agg #[.int .u64 (M.look i).ver, .int .i64 (M.look i).n, .slice a' (M.look i).L.length cap'] ∧
      SlAt 2 W a' cap' (M.look i).L.length (flatI (M.look i).L) ∧ (∀ j, inB a' j → w.heap.size ≤ j) ∧ Below w.heap.size w W := fun W e hB => by
    rw [e]
    exact ⟨none, 0, rfl, SlAt.nil _ _, (fun j hj => by obtain ⟨x, hx, _⟩ := hj; cases hx), hB⟩
  by_cases h0 : i < 0
  · have HZ := hidq (fun W => hz W (look_neg h0))
    clear hr h hz
    go_enter Tryz.func80, Tryz.ntmps80
    go_wp2
    obtain ⟨a', cap', hv, hq⟩ := HZ.out _ ((Below.refl _ _).alloc (Nat.le_refl _) _)
    exact bodyPost_ret (v := .agg #[.int .u64 0, .int .i64 0, .slice none 0 0]) (by simp [results, Tryz.results80, go_sem]) rfl ⟨a', cap', congrArg _ hv, hq⟩
  · have h0' : decide (i < 0) = false := decide_eq_false h0
    obtain ⟨k, rfl⟩ : ∃ k : Nat, i = (k : Int) := ⟨i.toNat, by omega⟩
    by_cases h1 : M.len ≤ k
    · have HZ := hidq (fun W => hz W (by rw [look_nat]; exact h.rest k h1))
      have h1i : (M.len : Int) ≤ (k : Int) := by omega
      clear hr h hz
      generalize M.len = n at *
      go_enter Tryz.func80, Tryz.ntmps80
      go_wp2
      obtain ⟨a', cap', hv, hq⟩ := HZ.out _ ((Below.refl _ _).alloc (Nat.le_refl _) _)
      exact bodyPost_ret (v := .agg #[.int .u64 0, .int .i64 0, .slice none 0 0]) (by simp [results, Tryz.results80, go_sem]) rfl ⟨a', cap', congrArg _ hv, hq⟩
    · rw [look_nat]
      have h1' : decide ((M.len : Int) ≤ (k : Int)) = false := decide_eq_false (by omega)
      have h1i : (k : Int) < (M.len : Int) := by omega
      obtain ⟨g, rfl, hg, hc0⟩ := hr.sl.cell (flatC_0 M A C k (by omega))
      obtain ⟨g1, e1, _, hc1⟩ := hr.sl.cell (flatC_1 M A C k (by omega))
      obtain ⟨g2, e2, _, hc2⟩ := hr.sl.cell (flatC_2 M A C k (by omega))
      cases e1; cases e2
      have hcp := hidq (copied_any (M.cell k).ver (M.cell k).n (A k) (C k) _ _ (w.alloc (boxC 0 0 (.slice none 0 0))) ((hr.its k (by omega)).but (S := fun _ => False) ((But.refl _ _).alloc _) (fun _ _ e => e)) (h.few k))
      have hle := hr.sl.le
      generalize (M.cell k).ver = v at *
      generalize (M.cell k).n = x at *
      generalize (M.cell k).L = L at *
      generalize A k = ak at *
      generalize C k = ck at *
      clear hr h hz
      generalize M.len = n at *
      go_enter Tryz.func80, Tryz.ntmps80
      go_wp2_with fail
      refine hcp.out.mono ?_
      rintro e w1 ⟨a', cap', rfl, hS, hF, hb⟩
      have hz2 : w.heap.size < w1.heap.size := by have := hb.size; simp at this; omega
      have d0 : w1.cell? ⟨w.heap.size, 0, none⟩ = some (.int .u64 0) := by rw [hb.cell (p := ⟨w.heap.size, 0, none⟩) (by simp)]; simp
      have d1 : w1.cell? ⟨w.heap.size, 1, none⟩ = some (.int .i64 0) := by rw [hb.cell (p := ⟨w.heap.size, 1, none⟩) (by simp)]; simp
      have d2 : w1.cell? ⟨w.heap.size, 2, none⟩ = some (.slice none 0 0) := by rw [hb.cell (p := ⟨w.heap.size, 2, none⟩) (by simp)]; simp
      have z0 : w1.frozen? ⟨w.heap.size, 0, none⟩ = false := by rw [hb.frozen (p := ⟨w.heap.size, 0, none⟩) (by simp)]; simp
      have z1 : w1.frozen? ⟨w.heap.size, 1, none⟩ = false := by rw [hb.frozen (p := ⟨w.heap.size, 1, none⟩) (by simp)]; simp
      have z2 : w1.frozen? ⟨w.heap.size, 2, none⟩ = false := by rw [hb.frozen (p := ⟨w.heap.size, 2, none⟩) (by simp)]; simp
      have hB0 : Below w.heap.size w w1 := ((Below.refl _ _).alloc (Nat.le_refl _) _).trans (hb.mono (by simp))
      have hfin := hidq (fun w2 (h2 : But (fun j => j = w.heap.size) w1 w2) => (show SlAt 2 w2 a' cap' L.length (flatI L) ∧ (∀ j, inB a' j → w.heap.size ≤ j) ∧ Below w.heap.size w w2 from
        ⟨hS.but h2 (fun j hj e => by have := hF j hj; simp at this; omega), fun j hj => by have := hF j hj; simp at this; omega, hB0.trans (h2.below hB0.size (fun j e => by omega))⟩))
      clear hb hS hF hB0 hcp
      go_wp2
      refine bodyPost_ret (v := .agg #[.int .u64 v, .int .i64 x, .slice a' L.length cap']) (by simp [results, Tryz.results80, go_sem, d0, d1, d2]) rfl ⟨a', cap', rfl, hfin.out _ ?_⟩
      exact (((But.refl (fun j => j = w.heap.size) w1).set1 _ _ rfl _).set1 _ _ rfl _).set1 _ _ rfl _

/-- How many cells a memory's row has. -/
def lenIn (w : World) (b : Nat) : Nat := match w.cell? ⟨b, 0, none⟩ with | some (.slice _ n _) => n | _ => 0
theorem lenIn_at {w : World} {b : Nat} {O : Nat → Prop} {M : Mem} (h : MemAt w b O M) : lenIn w b = M.len := by
  obtain ⟨a, cap, A, C, hr⟩ := h.row
  unfold lenIn; rw [hr.hd]
theorem plainC : PlainK Tryz.prog 3 111 94 := by
  have h : (Tryz.prog.info? 94).map (fun i => (i.zero, i.size, i.bytes)) = some (some (.agg #[.int .u64 0, .int .i64 0, .slice none 0 0]), 3, 40) := by kernel_rfl
  obtain ⟨i, hi, he⟩ := Option.map_eq_some_iff.1 h
  simp only [Prod.mk.injEq] at he
  exact ⟨i, _, Tryz.underlying111, hi, he.1, he.2.1, rfl, by rw [he.2.2]; decide⟩

/-- One cell more at the end. -/
theorem flatC_snoc (M : Mem) (A : Nat → Option Addr) (C : Nat → Nat) (hz : M.cell M.len = CV.zero) :
    flatC (M.reach (M.len + 1)) (fun i => if i = M.len then none else A i) (fun i => if i = M.len then 0 else C i) = flatC M A C ++ [.int .u64 0, .int .i64 0, .slice none 0 0] := by
  have hm : (M.reach (M.len + 1)).len = M.len + 1 := by show max M.len (M.len + 1) = _; omega
  have hcell : ∀ j, (M.reach (M.len + 1)).cell j = M.cell j := fun _ => rfl
  apply List.ext_getElem?
  intro t
  by_cases ht : t < M.len * 3
  · rw [flatC_get _ _ _ t (by rw [hm]; omega), List.getElem?_append_left (by rw [flatC_length]; exact ht), flatC_get _ _ _ t ht]
    unfold cellC
    dsimp only
    rw [hcell, if_neg (show ¬ t / 3 = M.len by omega), if_neg (show ¬ t / 3 = M.len by omega)]
  · rw [List.getElem?_append_right (by rw [flatC_length]; omega), flatC_length]
    by_cases ht2 : t < (M.len + 1) * 3
    · rw [flatC_get _ _ _ t (by rw [hm]; exact ht2)]
      have : t = M.len * 3 ∨ t = M.len * 3 + 1 ∨ t = M.len * 3 + 2 := by omega
      unfold cellC
      rw [hcell]
      rcases this with rfl | rfl | rfl
      · rw [if_pos (by omega), show M.len * 3 / 3 = M.len by omega, hz, show M.len * 3 - M.len * 3 = 0 by omega]; rfl
      · rw [if_neg (by omega), if_pos (by omega), show (M.len * 3 + 1) / 3 = M.len by omega, hz, show M.len * 3 + 1 - M.len * 3 = 1 by omega]; rfl
      · rw [if_neg (by omega), if_neg (by omega), show (M.len * 3 + 2) / 3 = M.len by omega, hz, show M.len * 3 + 2 - M.len * 3 = 2 by omega]; dsimp only; rw [if_pos rfl, if_pos rfl]; rfl
    · rw [List.getElem?_eq_none (by rw [flatC_length, hm]; omega), List.getElem?_eq_none (by simp; omega)]

/-! Parts of a cell, of a value. -/
theorem fldC_0 (x y z : Value) (w : World) : (Instr.field 94 (.agg #[x, y, z]) 0).run Tryz.prog w = .ok x w := by kernel_rfl
theorem fldC_1 (x y z : Value) (w : World) : (Instr.field 94 (.agg #[x, y, z]) 1).run Tryz.prog w = .ok (.agg #[y, z]) w := by kernel_rfl
theorem fldV_0 (x y : Value) (w : World) : (Instr.field 92 (.agg #[x, y]) 0).run Tryz.prog w = .ok x w := by kernel_rfl
theorem fldV_1 (x y : Value) (w : World) : (Instr.field 92 (.agg #[x, y]) 1).run Tryz.prog w = .ok y w := by kernel_rfl
end Go.Proofs.YtbcmilfajeanbaaGreat

namespace Go.Proofs.YtbcmilfajeanbaaGreat
open Go.RowKit Go.Sort

theorem own'_mono {O : Nat → Prop} {w w1 w2 : World} (h1 : w.heap.size ≤ w1.heap.size) (h2 : w1.heap.size ≤ w2.heap.size) {k : Nat} (h : own' (own' O w w1) w1 w2 k) : own' O w w2 k := by
  rcases h with (h | h) | h
  · exact .inl h
  · exact .inr ⟨h.1, by omega⟩
  · exact .inr ⟨by omega, h.2⟩
theorem MemAt.own {w : World} {b : Nat} {O O' : Nat → Prop} {M : Mem} (h : MemAt w b O M) (hi : ∀ k, O k → O' k) (hl : ∀ k, O' k → k < w.heap.size) : MemAt w b O' M := by
  obtain ⟨a, cap, A, C, hr⟩ := h.row
  exact ⟨hi _ h.ob, hl, ⟨a, cap, A, C, hr.hd, hr.sl, fun j hj => ⟨hi _ (hr.own j hj).1, (hr.own j hj).2⟩, hr.its, fun i hi' j hj => ⟨hi _ (hr.ito i hi' j hj).1, (hr.ito i hi' j hj).2⟩⟩, h.clk, h.fz0, h.fz1, h.max, h.rest, h.few⟩

theorem reach_max (M : Mem) (n : Nat) (h : n ≤ M.len) : M.reach n = M := by
  unfold Mem.reach; rw [Nat.max_eq_left h]
theorem reach_twice (M : Mem) (m n : Nat) (h : m ≤ n) : (M.reach m).reach n = M.reach n := by
  unfold Mem.reach; simp only [Mem.mk.injEq, and_true]; omega

/-- A row that was moved or grown in place, with one cell more. -/
theorem mem_grown {w w1 : World} {b g cap' : Nat} {O : Nat → Prop} {M : Mem} {a : Option Addr} {cap : Nat} {A : Nat → Option Addr} {C : Nat → Nat}
    (h : MemAt w b O M) (hr : RowC w b O M a cap A C) (hl : M.len < 1000)
    (hF : Flat 3 w1 g cap' (M.len + 1) (flatC M A C ++ [.int .u64 0, .int .i64 0, .slice none 0 0])) (hb : But (inB a) w w1) (hg : inB a g ∨ w.heap.size ≤ g) :
    MemAt (w1.setCell ⟨b, 0, none⟩ (.slice (some ⟨g, 0, none⟩) (M.len + 1) cap')) b (own' O w w1) (M.reach (M.len + 1)) ∧ But O w (w1.setCell ⟨b, 0, none⟩ (.slice (some ⟨g, 0, none⟩) (M.len + 1) cap')) := by
  have hbl := h.lt b h.ob
  have hnb : ¬ inB a b := fun e => (hr.own b e).2 rfl
  have hm : (M.reach (M.len + 1)).len = M.len + 1 := by show max M.len (M.len + 1) = _; omega
  have c0 : w1.cell? ⟨b, 0, none⟩ = some (.slice a M.len cap) := by rw [hb.cell (p := ⟨b, 0, none⟩) hbl hnb]; exact hr.hd
  have hgo : own' O w w1 g ∧ g ≠ b := by
    rcases hg with hg | hg
    · exact ⟨.inl (hr.own g hg).1, (hr.own g hg).2⟩
    · exact ⟨.inr ⟨hg, hF.lt⟩, by omega⟩
  have hset : But (fun k => k = b) w1 (w1.setCell ⟨b, 0, none⟩ (.slice (some ⟨g, 0, none⟩) (M.len + 1) cap')) := (But.refl (fun k => k = b) w1).set1 b 0 rfl _
  refine ⟨⟨.inl h.ob, ?_, ⟨some ⟨g, 0, none⟩, cap', fun i => if i = M.len then none else A i, fun i => if i = M.len then 0 else C i, ?_⟩, ?_, ?_, ?_, by rw [hm]; omega, ?_, h.few⟩, ?_⟩
  · intro k hk
    rw [World.size_setCell]
    rcases hk with hk | hk
    · exact Nat.lt_of_lt_of_le (h.lt k hk) hb.size
    · exact hk.2
  · refine ⟨by rw [World.cell?_setCell_same' _ _ _ (by rw [c0]; rfl), hm], .inr ⟨g, rfl, ?_⟩, ?_, ?_, ?_⟩
    · rw [hm, flatC_snoc M A C (h.rest _ (Nat.le_refl _))]
      exact hF.but hset hgo.2
    · rintro j ⟨x, hx, rfl⟩; cases hx; exact hgo
    · intro i hi
      rw [hm] at hi
      by_cases e : i = M.len
      · subst e
        show SlAt 2 _ (if M.len = M.len then none else A M.len) (if M.len = M.len then 0 else C M.len) (M.cell M.len).L.length (flatI (M.cell M.len).L)
        rw [if_pos rfl, if_pos rfl, h.rest _ (Nat.le_refl _)]
        exact SlAt.nil _ _
      · show SlAt 2 _ (if i = M.len then none else A i) (if i = M.len then 0 else C i) (M.cell i).L.length (flatI (M.cell i).L)
        rw [if_neg e, if_neg e]
        have hi' : i < M.len := by omega
        exact ((hr.its i hi').but hb (fun j hj => (hr.ito i hi' j hj).2.2)).but hset (fun j hj => (hr.ito i hi' j hj).2.1)
    · intro i hi j hj
      rw [hm] at hi
      by_cases e : i = M.len
      · rw [if_pos e] at hj; obtain ⟨x, hx, _⟩ := hj; cases hx
      · rw [if_neg e] at hj
        have hi' : i < M.len := by omega
        have h1 := hr.ito i hi' j hj
        refine ⟨.inl h1.1, h1.2.1, ?_⟩
        rintro ⟨x, hx, hxj⟩
        cases hx
        have hxj' : g = j := hxj
        rcases hg with hg | hg
        · rw [hxj'] at hg; exact h1.2.2 hg
        · have := h.lt j h1.1; omega
  · rw [World.cell?_setCell_other _ _ _ _ (fun e => by injection e with _ e2; cases e2), hb.cell (p := ⟨b, 1, none⟩) hbl hnb]
    exact h.clk
  · rw [World.frozen?_setCell, hb.frozen (p := ⟨b, 0, none⟩) hbl hnb]; exact h.fz0
  · rw [World.frozen?_setCell, hb.frozen (p := ⟨b, 1, none⟩) hbl hnb]; exact h.fz1
  · intro i hi
    rw [hm] at hi
    exact h.rest i (by omega)
  · exact (hb.mono (fun k _ e => (hr.own k e).1)).trans (hset.mono (fun k _ e => by rw [e]; exact h.ob))

theorem add1 (n : Nat) : ((n + 1 : Nat) : Int) = (n : Int) + 1 := by omega
set_option maxHeartbeats 1000000 in
theorem reach_any (b i : Nat) (O : Nat → Prop) (M : Mem) (w : World) (h : MemAt w b O M) (hi : i < 1000) :
    Calls Tryz.prog 162 #[.pointer (some ⟨b, 0, none⟩), .int .i64 (i : Int)] w fun e w' => e = .returned (.tuple #[]) ∧ MemAt w' b (own' O w w') (M.reach (i + 1)) ∧ But O w w' := by
  have hi1 : (i : Int) < 1000 := by omega
  go_enter Tryz.func162, Tryz.ntmps162
  go_wp2_with fail
  go_loopw [] (fun wr => ∃ n, n ≤ max M.len (i + 1) ∧ MemAt wr b (own' O w wr) (M.reach n) ∧ But O w wr) (fun wr => i + 1 - lenIn wr b)
  case atStart => exact ⟨M.len, by omega, by rw [reach_max M _ (Nat.le_refl _)]; exact h.own (fun k hk => .inl hk) (fun k hk => hk.elim (h.lt k) (fun e => e.2)), But.refl _ _⟩
  case round =>
    obtain ⟨n, hn, hM, hB⟩ := hrel
    obtain ⟨a, cap, A, C, hr⟩ := hM.row
    obtain ⟨m, hm⟩ : ∃ m, (M.reach n).len = m := ⟨_, rfl⟩
    have hmm : m = max M.len n := hm.symm
    have hd := hr.hd
    rw [hm] at hd
    have hfz := hM.fz0
    have hbl := hM.lt b hM.ob
    have hmx := hM.max
    rw [hm] at hmx
    have hmx1 : (m : Int) ≤ 1000 := by omega
    by_cases hlt : m ≤ i
    · have hl1 : (m : Int) ≤ (i : Int) := by omega
      have hsr : Src Tryz.prog 3 111 (.slice (some ⟨wr.heap.size, 0, none⟩) 1 1) 1 [.int .u64 0, .int .i64 0, .slice none 0 0] (wr.alloc (boxC 0 0 (.slice none 0 0))) :=
        src_new 3 _ Tryz.underlying111 _ _ rfl (fun j u hu => by rw [World.cell?_alloc_new]; rcases j with _ | _ | _ | j <;> first | exact hu | (simp at hu)) (fun u hu => by simp at hu; rcases hu with rfl | rfl | rfl <;> rfl)
      have hM1 : MemAt (wr.alloc (boxC 0 0 (.slice none 0 0))) b (own' O w wr) (M.reach n) := hM.but (S := fun _ => False) ((But.refl _ _).alloc _) (fun _ _ e => e)
      have hr1 := hr.but (S := fun _ => False) hbl ((But.refl _ wr).alloc (boxC 0 0 (.slice none 0 0))) (fun _ _ e => e) hM.ob
      have hsl := hr1.sl
      rw [hm] at hsl
      have hc1 := hr1.hd
      rw [hm] at hc1
      have hz1 := hM1.fz0
      have hnb : ¬ inB a b := fun e => (hr.own b e).2 rfl
      have hbl1 : b < (wr.alloc (boxC 0 0 (.slice none 0 0))).heap.size := by simp; omega
      have FIN := hidq (fun g' cap' w' (hF : Flat 3 w' g' cap' (m + 1) (flatC (M.reach n) A C ++ [.int .u64 0, .int .i64 0, .slice none 0 0])) (hb' : But (inB a) (wr.alloc (boxC 0 0 (.slice none 0 0))) w') (hg' : inB a g' ∨ (wr.alloc (boxC 0 0 (.slice none 0 0))).heap.size ≤ g') =>
        mem_grown hM1 hr1 (by rw [hm]; omega) (by rw [hm]; exact hF) hb' hg')
      rw [hm] at FIN
      have FC := hidq (fun w' (hb' : But (inB a) (wr.alloc (boxC 0 0 (.slice none 0 0))) w') => (show w'.cell? ⟨b, 0, none⟩ = some (.slice a m cap) ∧ w'.frozen? ⟨b, 0, none⟩ = false ∧ b < w'.heap.size from
        ⟨(hb'.cell (p := ⟨b, 0, none⟩) hbl1 hnb).trans hc1, (hb'.frozen (p := ⟨b, 0, none⟩) hbl1 hnb).trans hz1, Nat.lt_of_lt_of_le hbl1 hb'.size⟩))
      have HSL := hidq hsl
      have HSR := hidq hsr
      have HMM := hidq hmm
      have HM := hidq hM
      have HM1 := hidq hm
      clear hM1 hr1 hr hsl hsr hmm hM hm hnb hbl1
      go_wp2_with (at_builtin; refine wpList_sl plainC _ rfl (.tmp 15) (.tmp 17) rfl a cap m _ rfl HSL.out _ rfl 1 _ HSR.out (by omega) (by omega) ?_; intro g' cap' w' hF hb' hg'; obtain ⟨fc1, fc2, fc3⟩ := FC.out w' hb'; have HF := hidq hF; have HB := hidq hb'; clear hF hb')
      have hgr := FIN.out g' cap' w' HF.out HB.out hg'
      have hsz := HB.out.size
      rw [World.size_alloc] at hsz
      have hmn : m = max M.len n := HMM.out
      have hB2 : But O w (w'.setCell ⟨b, 0, none⟩ (.slice (some ⟨g', 0, none⟩) (m + 1) cap')) := by
        refine hB.then (T := own' O w wr) (((But.refl _ wr).alloc _).trans hgr.2) (fun k hk e => ?_)
        rcases e with e | e
        · exact e
        · omega
      have hM2 : MemAt (w'.setCell ⟨b, 0, none⟩ (.slice (some ⟨g', 0, none⟩) (m + 1) cap')) b (own' O w (w'.setCell ⟨b, 0, none⟩ (.slice (some ⟨g', 0, none⟩) (m + 1) cap'))) (M.reach (m + 1)) := by
        have h1 := hgr.1
        rw [reach_twice M n (m + 1) (by omega)] at h1
        refine h1.own (fun k hk => ?_) (fun k hk => ?_)
        · rcases hk with (e | e) | e
          · exact .inl e
          · exact .inr ⟨e.1, by rw [World.size_setCell]; omega⟩
          · rw [World.size_alloc] at e; exact .inr ⟨by have := hB.size; omega, by rw [World.size_setCell]; omega⟩
        · rcases hk with e | e
          · exact h1.lt k (.inl (.inl e))
          · exact e.2
      have HM2 := hidq hM2
      have HB2 := hidq hB2
      have hl2 : lenIn (w'.setCell ⟨b, 0, none⟩ (.slice (some ⟨g', 0, none⟩) (m + 1) cap')) b = m + 1 := by rw [lenIn_at hM2]; show max M.len (m + 1) = m + 1; omega
      have hl1' : lenIn wr b = m := by rw [lenIn_at HM.out]; exact HM1.out
      have HL := hidq (And.intro hl2 hl1')
      clear hgr hM2 hB2 hl2 hl1'
      go_wp2
      go_roundw
      case rel => exact ⟨m + 1, by have := HMM.out; omega, HM2.out, HB2.out⟩
      case measure => rw [HL.out.1, HL.out.2]; omega
    · have hl1 : decide ((m : Int) ≤ (i : Int)) = false := decide_eq_false (by omega)
      have hM2 : MemAt wr b (own' O w wr) (M.reach (i + 1)) := by
        have e : M.reach n = M.reach (i + 1) := by unfold Mem.reach; simp only [Mem.mk.injEq, and_true]; omega
        rw [← e]; exact hM
      have HM2 := hidq hM2
      clear hM2 hM hr hmm hm hn
      go_wp2
      go_end0
      exact ⟨rfl, HM2.out, hB⟩
end Go.Proofs.YtbcmilfajeanbaaGreat

namespace Go.Proofs.YtbcmilfajeanbaaGreat
open Go.RowKit Go.Sort

/-- One cell of a row is laid anew. -/
theorem Flat.set {k g cap n t : Nat} {w : World} {l : List Value} {v : Value} (h : Flat k w g cap n l) (ht : t < l.length) (hv : v.oneCell' = true) : Flat k (w.setCell ⟨g, t, none⟩ v) g cap n (l.set t v) := by
  have hc : (w.cell? ⟨g, t, none⟩).isSome = true := by rw [h.cell t _ (List.getElem?_eq_getElem ht)]; rfl
  refine ⟨by rw [World.size_setCell]; exact h.lt, by rw [List.length_set]; exact h.len, h.le, h.cmax, ?_, ?_, ?_⟩
  · intro s u hu
    rw [List.getElem?_set] at hu
    by_cases e : t = s
    · subst e
      rw [if_pos rfl, if_pos ht] at hu
      cases hu
      rw [World.cell?_setCell_same' _ _ _ hc]
    · rw [if_neg e] at hu
      rw [World.cell?_setCell_other _ _ _ _ (fun q => e (by injection q))]
      exact h.cell s u hu
  · intro u hu
    rcases List.mem_or_eq_of_mem_set hu with hu | rfl
    · exact h.one u hu
    · exact hv
  · intro j hj
    refine ⟨?_, by rw [World.frozen?_setCell]; exact (h.there j hj).2⟩
    by_cases e : t = j
    · subst e; rw [World.cell?_setCell_same' _ _ _ hc]; rfl
    · rw [World.cell?_setCell_other _ _ _ _ (fun q => e (by injection q))]; exact (h.there j hj).1

theorem flatC_set (M : Mem) (A : Nat → Option Addr) (C : Nat → Nat) (i : Nat) (v x : Int) (L : List It) (a' : Option Addr) (cap' : Nat) (M' : Mem) (hl : M'.len = M.len) (hc : ∀ j, M'.cell j = if j = i then ⟨v, x, L⟩ else M.cell j) :
    (((flatC M A C).set (i * 3) (.int .u64 v)).set (i * 3 + 1) (.int .i64 x)).set (i * 3 + 2) (.slice a' L.length cap') = flatC M' (fun j => if j = i then a' else A j) (fun j => if j = i then cap' else C j) := by
  apply List.ext_getElem?
  intro t
  by_cases ht : t < M.len * 3
  · rw [List.getElem?_set, List.getElem?_set, List.getElem?_set, flatC_get M' _ _ t (by rw [hl]; exact ht), flatC_get M A C t ht]
    simp only [List.length_set, flatC_length]
    unfold cellC
    dsimp only
    rw [hc]
    by_cases e : t / 3 = i
    · have : t = i * 3 ∨ t = i * 3 + 1 ∨ t = i * 3 + 2 := by omega
      rw [if_pos e, if_pos e, if_pos e]
      rcases this with rfl | rfl | rfl
      · rw [if_neg (by omega), if_neg (by omega), if_pos rfl, if_pos (by omega), if_pos (by omega)]
      · rw [if_neg (by omega), if_pos rfl, if_pos (by omega), if_neg (by omega), if_pos (by omega)]
      · rw [if_pos rfl, if_pos (by omega), if_neg (by omega), if_neg (by omega)]
    · rw [if_neg e, if_neg e, if_neg e, if_neg (by omega), if_neg (by omega), if_neg (by omega)]
  · rw [List.getElem?_eq_none (by simp [flatC_length]; omega), List.getElem?_eq_none (by rw [flatC_length, hl]; omega)]

/-- A memory whose clock has gone on and whose cell was laid anew. -/
theorem mem_laid {w w1 : World} {b i : Nat} {O : Nat → Prop} {M : Mem} (h : MemAt w b O M) (hi : i < M.len) (g cap : Nat) (A : Nat → Option Addr) (C : Nat → Nat) (hr : RowC w b O M (some ⟨g, 0, none⟩) cap A C)
    (x : Int) (L : List It) (a' : Option Addr) (cap' : Nat) (hb0 : But (fun _ => False) (w.setCell ⟨b, 1, none⟩ (.int .u64 ((M.clock + 1 : Nat) : Int))) w1) (hS : SlAt 2 w1 a' cap' L.length (flatI L)) (hF : ∀ j, inB a' j → w.heap.size ≤ j) (hL : L.length ≤ 1000000) (w2 : World)
    (hw2 : w2 = ((w1.setCell ⟨g, i * 3, none⟩ (.int .u64 ((M.clock + 1 : Nat) : Int))).setCell ⟨g, i * 3 + 1, none⟩ (.int .i64 x)).setCell ⟨g, i * 3 + 2, none⟩ (.slice a' L.length cap')) :
    MemAt w2 b (own' O w w2) (M.put i x L) ∧ But O w w2 := by
  have hbl := h.lt b h.ob
  have hgo := hr.own g ⟨_, rfl, rfl⟩
  have hgl := h.lt g hgo.1
  have hput : (M.put i x L).len = M.len := by show max M.len (i + 1) = _; omega
  have hbut : But (fun k => k = g) w1 w2 := by
    rw [hw2]
    exact (((But.refl (fun k => k = g) w1).set1 _ _ rfl _).set1 _ _ rfl _).set1 _ _ rfl _
  have hb : But (fun k => k = b) w w1 := ((But.refl (fun k => k = b) w).set1 b 1 rfl _).then hb0 (fun _ _ e => e.elim)
  have hsz : w2.heap.size = w1.heap.size := by rw [hw2]; simp [World.size_setCell]
  have hneb : ∀ (p q : Nat), (⟨g, p, none⟩ : Addr) ≠ ⟨b, q, none⟩ := fun p q e => by injection e with e1; exact hgo.2 e1
  have hc1 : w1.cell? ⟨b, 1, none⟩ = some (.int .u64 ((M.clock + 1 : Nat) : Int)) := by
    rw [hb0.cell (p := ⟨b, 1, none⟩) (by rw [World.size_setCell]; exact hbl) id, World.cell?_setCell_same' _ _ _ (by rw [h.clk]; rfl)]
  have hc0 : w1.cell? ⟨b, 0, none⟩ = some (.slice (some ⟨g, 0, none⟩) M.len cap) := by
    rw [hb0.cell (p := ⟨b, 0, none⟩) (by rw [World.size_setCell]; exact hbl) id, World.cell?_setCell_other _ _ _ _ (fun e => by injection e with _ e2; cases e2)]
    exact hr.hd
  have hB : But O w w2 := (hb.mono (fun k _ e => by rw [e]; exact h.ob)).then hbut (fun k _ e => by rw [e]; exact hgo.1)
  refine ⟨⟨.inl h.ob, ?_, ⟨some ⟨g, 0, none⟩, cap, fun j => if j = i then a' else A j, fun j => if j = i then cap' else C j, ?_⟩, ?_, ?_, ?_, by rw [hput]; exact h.max, ?_, ?_⟩, hB⟩
  · intro k hk
    rcases hk with hk | hk
    · exact Nat.lt_of_lt_of_le (h.lt k hk) hB.size
    · exact hk.2
  · refine ⟨?_, .inr ⟨g, rfl, ?_⟩, ?_, ?_, ?_⟩
    · rw [hput, hw2, World.cell?_setCell_other _ _ _ _ (hneb _ _), World.cell?_setCell_other _ _ _ _ (hneb _ _), World.cell?_setCell_other _ _ _ _ (hneb _ _)]
      exact hc0
    · rcases hr.sl with ⟨e, _⟩ | ⟨g', e, hf⟩
      · cases e
      · cases e
        have hf1 := hf.but hb hgo.2
        have hlen := flatC_length M A C
        have hf2 := ((hf1.set (t := i * 3) (v := .int .u64 ((M.clock + 1 : Nat) : Int)) (by rw [hlen]; omega) rfl).set (t := i * 3 + 1) (v := .int .i64 x) (by rw [List.length_set, hlen]; omega) rfl).set (t := i * 3 + 2) (v := .slice a' L.length cap') (by rw [List.length_set, List.length_set, hlen]; omega) rfl
        rw [flatC_set M A C i ((M.clock + 1 : Nat) : Int) x L a' cap' (M.put i x L) hput (fun j => rfl), ← hw2] at hf2
        rw [hput]
        exact hf2
    · rintro j ⟨y, hy, rfl⟩; cases hy; exact ⟨.inl hgo.1, hgo.2⟩
    · intro j hj
      rw [hput] at hj
      show SlAt 2 w2 (if j = i then a' else A j) (if j = i then cap' else C j) (if j = i then (⟨((M.clock + 1 : Nat) : Int), x, L⟩ : CV) else M.cell j).L.length (flatI (if j = i then (⟨((M.clock + 1 : Nat) : Int), x, L⟩ : CV) else M.cell j).L)
      by_cases e : j = i
      · rw [if_pos e, if_pos e, if_pos e]
        exact hS.but hbut (fun k hk e => by have := hF k hk; omega)
      · rw [if_neg e, if_neg e, if_neg e]
        refine ((hr.its j hj).but hb (fun k hk => (hr.ito j hj k hk).2.1)).but hbut (fun k hk e => ?_)
        exact (hr.ito j hj k hk).2.2 ⟨_, rfl, e.symm⟩
    · intro j hj k hk
      rw [hput] at hj
      have hk' : inB (if j = i then a' else A j) k := hk
      by_cases e : j = i
      · rw [if_pos e] at hk'
        have h1 := hF k hk'
        have h2 := hS.lt k hk'
        refine ⟨.inr ⟨h1, by omega⟩, by omega, ?_⟩
        rintro ⟨y, hy, hyk⟩; cases hy
        have : g = k := hyk
        omega
      · rw [if_neg e] at hk'
        have h1 := hr.ito j hj k hk'
        exact ⟨.inl h1.1, h1.2.1, h1.2.2⟩
  · show w2.cell? ⟨b, 1, none⟩ = some (.int .u64 ((M.clock + 1 : Nat) : Int))
    rw [hw2, World.cell?_setCell_other _ _ _ _ (hneb _ _), World.cell?_setCell_other _ _ _ _ (hneb _ _), World.cell?_setCell_other _ _ _ _ (hneb _ _)]
    exact hc1
  · rw [hw2, World.frozen?_setCell, World.frozen?_setCell, World.frozen?_setCell, hb0.frozen (p := ⟨b, 0, none⟩) (by rw [World.size_setCell]; exact hbl) id, World.frozen?_setCell]; exact h.fz0
  · rw [hw2, World.frozen?_setCell, World.frozen?_setCell, World.frozen?_setCell, hb0.frozen (p := ⟨b, 1, none⟩) (by rw [World.size_setCell]; exact hbl) id, World.frozen?_setCell]; exact h.fz1
  · intro j hj
    rw [hput] at hj
    show (if j = i then _ else M.cell j) = _
    rw [if_neg (by omega)]; exact h.rest j hj
  · intro j
    show (if j = i then (⟨((M.clock + 1 : Nat) : Int), x, L⟩ : CV) else M.cell j).L.length ≤ _
    by_cases e : j = i
    · rw [if_pos e]; exact hL
    · rw [if_neg e]; exact h.few j

theorem force_no (b : Nat) (i : Int) (x : Int) (s : Value) (w : World) (hi : i < 0 ∨ 1000 ≤ i) :
    Calls Tryz.prog 161 #[.pointer (some ⟨b, 0, none⟩), .int .i64 i, .agg #[.int .i64 x, s]] w fun e w' => e = .returned (.bool false) ∧ Below w.heap.size w w' := by
  by_cases h0 : i < 0
  · clear hi
    go_enter Tryz.func161, Tryz.ntmps161
    go_wp2
    go_ret
    exact ⟨rfl, (Below.refl _ _).alloc (Nat.le_refl _) _⟩
  · have h0' : decide (i < 0) = false := decide_eq_false h0
    have h1 : 1000 ≤ i := by omega
    clear hi h0
    go_enter Tryz.func161, Tryz.ntmps161
    go_wp2
    go_ret
    exact ⟨rfl, (Below.refl _ _).alloc (Nat.le_refl _) _⟩

theorem put_reach (M : Mem) (i : Nat) (x : Int) (L : List It) : (M.reach (i + 1)).put i x L = M.put i x L := by
  unfold Mem.put Mem.reach
  simp only [Mem.mk.injEq, and_true]
  omega

set_option maxHeartbeats 4000000 in
theorem force_any (b i : Nat) (O : Nat → Prop) (M : Mem) (x : Int) (a : Option Addr) (cap : Nat) (L : List It) (w : World) (h : MemAt w b O M) (hS : SlAt 2 w a cap L.length (flatI L)) (hO : ∀ j, inB a j → ¬ O j) (hL : L.length ≤ 1000000) (hi : i < 1000) (hck : M.clock < 4611686018427387904) :
    Calls Tryz.prog 161 #[.pointer (some ⟨b, 0, none⟩), .int .i64 (i : Int), .agg #[.int .i64 x, .slice a L.length cap]] w fun e w' => e = .returned (.bool true) ∧ MemAt w' b (own' O w w') (M.put i x L) ∧ But O w w' := by
  have hbl := h.lt b h.ob
  have hB1 : But (fun _ => False) w (w.alloc (boxV x (.slice a L.length cap))) := (But.refl _ _).alloc _
  have hRe := hidq (reach_any b i O M _ (h.but hB1 (fun _ _ e => e)) hi)
  have hi0 : decide ((i : Int) < 0) = false := decide_eq_false (by omega)
  have hi1 : decide ((1000 : Int) ≤ (i : Int)) = false := decide_eq_false (by omega)
  have HH := hidq h
  have HS := hidq hS
  clear h hS
  go_enter Tryz.func161, Tryz.ntmps161
  go_wp2_with fail
  refine hRe.out.mono ?_
  rintro e w1 ⟨rfl, hM, hB2⟩
  have hbl1 := hM.lt b hM.ob
  have hwz : w.heap.size < w1.heap.size := by have := hB2.size; simp at this; omega
  have hOw : ¬ O w.heap.size := fun e => by have := HH.out.lt _ e; omega
  have hck1 := hM.clk
  have hf1 := hM.fz1
  obtain ⟨ar, capr, A, C, hr⟩ := hM.row
  have hlen : i < (M.reach (i + 1)).len := by show i < max M.len (i + 1); omega
  obtain ⟨g, rfl, hg, _⟩ := hr.sl.cell (flatC_0 _ A C i hlen)
  have hd := hr.hd
  have hgo := hr.own g ⟨_, rfl, rfl⟩
  have hle := hr.sl.le
  have hmx := hM.max
  have HA := hidq (show SlAt 2 w1 a cap L.length (flatI L) from (HS.out.but hB1 (fun _ _ e => e)).but hB2 hO)
  have hab : ∀ j, inB a j → ¬ j = b := fun j hj e => hO j hj (by rw [e]; exact HH.out.ob)
  obtain ⟨n, hn⟩ : ∃ n, (M.reach (i + 1)).len = n := ⟨_, rfl⟩
  rw [hn] at hd hlen hle hmx
  have hckr : (M.reach (i + 1)).clock = M.clock := rfl
  rw [hckr] at hck1
  have hNI : (i : Int) < (n : Int) := by omega
  have hle2 : n ≤ capr := hle
  obtain ⟨cv, hcv⟩ : ∃ cv : Int, ((M.clock + 1 : Nat) : Int) = cv := ⟨_, rfl⟩
  have hcv1 : (M.clock : Int) + 1 = cv := by omega
  obtain ⟨ck, hckv⟩ : ∃ ck : Int, (M.clock : Int) = ck := ⟨_, rfl⟩
  rw [hckv] at hck1 hcv1
  have hckb : 0 ≤ ck ∧ ck < 4611686018427387904 := by omega
  have hcl : ∀ k, k < n * 3 → (w1.cell? ⟨g, k, none⟩).isSome = true ∧ w1.frozen? ⟨g, k, none⟩ = false := by
    rcases hr.sl with ⟨e, _⟩ | ⟨g', e, hf⟩
    · cases e
    · cases e
      exact fun k hk => hf.there k (by omega)
  have FIN := hidq (fun w3 a' cap' (hb0 : But (fun _ => False) (w1.setCell ⟨b, 1, none⟩ (.int .u64 cv)) w3) (hS3 : SlAt 2 w3 a' cap' L.length (flatI L)) (hF3 : ∀ j, inB a' j → w1.heap.size ≤ j) =>
    mem_laid hM (by rw [hn]; exact hlen) g capr A C hr x L a' cap' (by rw [hckr, hcv]; exact hb0) hS3 hF3 hL _ rfl)
  rw [put_reach, hckr, hcv] at FIN
  have FC := hidq (fun w3 (hb0 : But (fun _ => False) (w1.setCell ⟨b, 1, none⟩ (.int .u64 cv)) w3) => (show (w3.cell? ⟨b, 0, none⟩ = some (.slice (some ⟨g, 0, none⟩) n capr) ∧ w3.cell? ⟨b, 1, none⟩ = some (.int .u64 cv)) ∧ g < w3.heap.size ∧
      (∃ u0, w3.cell? ⟨g, i * 3, none⟩ = some u0) ∧ (∃ u1, w3.cell? ⟨g, i * 3 + 1, none⟩ = some u1) ∧ (∃ u2, w3.cell? ⟨g, i * 3 + 2, none⟩ = some u2) ∧ w3.frozen? ⟨g, i * 3, none⟩ = false ∧ w3.frozen? ⟨g, i * 3 + 1, none⟩ = false ∧ w3.frozen? ⟨g, i * 3 + 2, none⟩ = false from by
    have hb : But (fun k => k = b) w1 w3 := ((But.refl (fun k => k = b) w1).set1 b 1 rfl _).then hb0 (fun _ _ e => e.elim)
    have hc : ∀ k, k < n * 3 → (∃ u, w3.cell? ⟨g, k, none⟩ = some u) ∧ w3.frozen? ⟨g, k, none⟩ = false := fun k hk => by
      rw [hb.cell (p := ⟨g, k, none⟩) hg hgo.2, hb.frozen (p := ⟨g, k, none⟩) hg hgo.2]
      exact ⟨Option.isSome_iff_exists.1 (hcl k hk).1, (hcl k hk).2⟩
    refine ⟨⟨?_, ?_⟩, Nat.lt_of_lt_of_le hg hb.size, (hc _ (by omega)).1, (hc _ (by omega)).1, (hc _ (by omega)).1, (hc _ (by omega)).2, (hc _ (by omega)).2, (hc _ (by omega)).2⟩
    · rw [hb0.cell (p := ⟨b, 0, none⟩) (by rw [World.size_setCell]; exact hbl1) id, World.cell?_setCell_other _ _ _ _ (fun e => by injection e with _ e2; cases e2)]; exact hd
    · rw [hb0.cell (p := ⟨b, 1, none⟩) (by rw [World.size_setCell]; exact hbl1) id, World.cell?_setCell_same' _ _ _ (by rw [hck1]; rfl)]))
  have hC := hidq (fun W (hW : But (fun k => k = b) w1 W) => vclone_any x a cap L.length _ W (HA.out.but hW hab) hL)
  have hnwb : ¬ w.heap.size = b := by omega
  have bx0 : (w1.setCell ⟨b, 1, none⟩ (.int .u64 cv)).drew.cell? ⟨w.heap.size, 0, none⟩ = some (.int .i64 x) := by
    show (w1.setCell ⟨b, 1, none⟩ (.int .u64 cv)).cell? ⟨w.heap.size, 0, none⟩ = _
    rw [World.cell?_setCell_other _ _ _ _ (fun e => by injection e with e1; exact hnwb e1.symm), hB2.cell (p := ⟨w.heap.size, 0, none⟩) (by simp) hOw]; simp
  have bx1 : (w1.setCell ⟨b, 1, none⟩ (.int .u64 cv)).drew.cell? ⟨w.heap.size, 1, none⟩ = some (.slice a L.length cap) := by
    show (w1.setCell ⟨b, 1, none⟩ (.int .u64 cv)).cell? ⟨w.heap.size, 1, none⟩ = _
    rw [World.cell?_setCell_other _ _ _ _ (fun e => by injection e with e1; exact hnwb e1.symm), hB2.cell (p := ⟨w.heap.size, 1, none⟩) (by simp) hOw]; simp
  have hEND := hidq (fun w2 (hM2 : MemAt w2 b (own' (own' O (w.alloc (boxV x (.slice a L.length cap))) w1) w1 w2) (M.put i x L)) (hBx : But (own' O (w.alloc (boxV x (.slice a L.length cap))) w1) w1 w2) => (show MemAt w2 b (own' O w w2) (M.put i x L) ∧ But O w w2 from by
    refine ⟨hM2.own (fun k hk => ?_) (fun k hk => ?_), ((hB1.mono (fun _ _ e => e.elim)).trans hB2).then hBx (fun k hk e => ?_)⟩
    · have hs1 := hB2.size
      rw [World.size_alloc] at hs1
      have hs2 := hBx.size
      rcases hk with (e | e) | e
      · exact .inl e
      · rw [World.size_alloc] at e; exact .inr ⟨by omega, by omega⟩
      · exact .inr ⟨by omega, by omega⟩
    · rcases hk with e | e
      · exact hM2.lt k (.inl (.inl e))
      · exact e.2
    · rcases e with e | e
      · exact e
      · rw [World.size_alloc] at e; omega))
  have HSZ := hidq (show (w1.setCell ⟨b, 1, none⟩ (.int .u64 cv)).drew.heap.size = w1.heap.size from by show (w1.setCell ⟨b, 1, none⟩ (.int .u64 cv)).heap.size = _; rw [World.size_setCell])
  clear hr hM hcl hB2 hB1 hRe hmx hcv hckv hO hab hck hle hn hgo hckr hOw
  go_wp2
  go_region_with (go_at_call 101; refine (hC.out _ ((But.refl (fun k => k = b) w1).set1 b 1 rfl _).drew).mono ?_; rintro e w3 ⟨a', cap', rfl, hS3, hf3, hb3⟩; have HS3 := hidq hS3; rw [HSZ.out] at hf3; have HF3 := hidq hf3; have hbb : But (fun _ => False) (w1.setCell ⟨b, 1, none⟩ (.int .u64 cv)) w3 := ⟨hb3.os, hb3.tape, hb3.output, hb3.size, fun k hk _ => hb3.block k hk⟩; have HBB := hidq hbb; obtain ⟨⟨e0, e1⟩, e2, ⟨u0, e3⟩, ⟨u1, e4⟩, ⟨u2, e5⟩, e6, e7, e8⟩ := FC.out w3 hbb; clear hS3 hf3 hb3 hbb)
  all_goals go_wp2
  all_goals go_ret
  all_goals exact ⟨rfl, hEND.out _ (FIN.out w3 a' cap' HBB.out HS3.out HF3.out).1 (FIN.out w3 a' cap' HBB.out HS3.out HF3.out).2⟩
end Go.Proofs.YtbcmilfajeanbaaGreat

namespace Go.Proofs.YtbcmilfajeanbaaGreat
open Go.RowKit Go.Sort

/-- What Write does. -/
def Mem.can (M : Mem) (i v : Int) : Bool := decide (0 ≤ i ∧ i < 1000) && ((M.look i).ver == v)
theorem can_yes {M : Mem} {i : Nat} {v : Int} (h : i < 1000) (hv : (M.cell i).ver = v) : M.can (i : Int) v = true := by
  unfold Mem.can; rw [look_nat, hv]; simp; omega

theorem write_no (b : Nat) (O : Nat → Prop) (M : Mem) (i v x : Int) (s : Value) (w : World) (h : MemAt w b O M) (hno : M.can i v = false) :
    Calls Tryz.prog 159 #[.pointer (some ⟨b, 0, none⟩), .int .i64 i, .int .u64 v, .agg #[.int .i64 x, s]] w fun e w' => e = .returned (.bool false) ∧ Below w.heap.size w w' := by
  have hV := hidq (version_any b O M i _ (h.but (S := fun _ => False) ((But.refl _ _).alloc (boxV x s)) (fun _ _ e => e)))
  by_cases hv : (M.look i).ver = v
  · have hi : i < 0 ∨ 1000 ≤ i := by
      unfold Mem.can at hno
      rw [hv] at hno
      simp at hno
      omega
    rw [hv] at hV
    have hF := hidq (fun W => force_no b i x s W hi)
    clear h hno hv hi
    go_enter Tryz.func159, Tryz.ntmps159
    go_wp2_with (first
      | (go_at_call 160; refine hV.out.mono ?_; rintro e w1 ⟨rfl, hw⟩; replace hw := hw.symm; subst hw)
      | (go_at_call 161; refine (hF.out _).mono ?_; rintro e w2 ⟨rfl, hb2⟩))
    go_ret
    exact ⟨rfl, ((Below.refl _ _).alloc (Nat.le_refl _) _).trans (hb2.mono (by simp))⟩
  · have hvb : ((M.look i).ver == v) = false := by simpa using hv
    generalize (M.look i).ver = u at *
    clear h hno hv
    go_enter Tryz.func159, Tryz.ntmps159
    go_wp2_with (go_at_call 160; refine hV.out.mono ?_; rintro e w1 ⟨rfl, hw⟩; replace hw := hw.symm; subst hw)
    go_ret
    exact ⟨rfl, (Below.refl _ _).alloc (Nat.le_refl _) _⟩

theorem write_yes (b i : Nat) (O : Nat → Prop) (M : Mem) (v x : Int) (a : Option Addr) (cap : Nat) (L : List It) (w : World) (h : MemAt w b O M) (hS : SlAt 2 w a cap L.length (flatI L)) (hO : ∀ j, inB a j → ¬ O j) (hL : L.length ≤ 1000000) (hi : i < 1000) (hck : M.clock < 4611686018427387904) (hv : (M.cell i).ver = v) :
    Calls Tryz.prog 159 #[.pointer (some ⟨b, 0, none⟩), .int .i64 (i : Int), .int .u64 v, .agg #[.int .i64 x, .slice a L.length cap]] w fun e w' => e = .returned (.bool true) ∧ MemAt w' b (own' O w w') (M.put i x L) ∧ But O w w' := by
  have hB1 : But (fun _ => False) w (w.alloc (boxV x (.slice a L.length cap))) := (But.refl _ _).alloc _
  have hV := hidq (version_any b O M (i : Int) _ (h.but hB1 (fun _ _ e => e)))
  rw [look_nat, hv] at hV
  have hF := hidq (force_any b i O M x a cap L _ (h.but hB1 (fun _ _ e => e)) (hS.but hB1 (fun _ _ e => e)) hO hL hi hck)
  clear h hS hO hv
  go_enter Tryz.func159, Tryz.ntmps159
  go_wp2_with (first
    | (go_at_call 160; refine hV.out.mono ?_; rintro e w1 ⟨rfl, hw⟩; replace hw := hw.symm; subst hw)
    | (go_at_call 161; refine hF.out.mono ?_; rintro e w2 ⟨rfl, hM2, hb2⟩))
  go_ret
  refine ⟨rfl, hM2.own (fun k hk => ?_) (fun k hk => ?_), (hB1.mono (fun _ _ e => e.elim)).trans hb2⟩
  · rcases hk with e | e
    · exact .inl e
    · rw [World.size_alloc] at e; exact .inr ⟨by omega, e.2⟩
  · rcases hk with e | e
    · exact hM2.lt k (.inl e)
    · exact e.2

/-- Write, whichever way it goes. -/
def Mem.write (M : Mem) (i v x : Int) (L : List It) : Mem := if M.can i v = true then M.put i.toNat x L else M
theorem write_as {M : Mem} {i v x : Int} {L : List It} : (M.can i v = true ∧ M.write i v x L = M.put i.toNat x L ∧ ∃ k : Nat, i = (k : Int) ∧ k < 1000 ∧ (M.cell k).ver = v) ∨ (M.can i v = false ∧ M.write i v x L = M) := by
  cases h : M.can i v
  · refine .inr ⟨rfl, ?_⟩
    unfold Mem.write; rw [h]; rfl
  · refine .inl ⟨rfl, ?_, ?_⟩
    · unfold Mem.write; rw [h]; rfl
    · unfold Mem.can at h
      simp at h
      refine ⟨i.toNat, by omega, by omega, ?_⟩
      have := h.2
      unfold Mem.look at this
      rw [if_neg (by omega)] at this
      exact this
theorem own'_lt {O : Nat → Prop} {w w' : World} (h : ∀ k, O k → k < w.heap.size) (hs : w.heap.size ≤ w'.heap.size) : ∀ k, own' O w w' k → k < w'.heap.size := fun k hk => by
  rcases hk with e | e
  · exact Nat.lt_of_lt_of_le (h k e) hs
  · exact e.2
theorem write_any (b : Nat) (O : Nat → Prop) (M : Mem) (i v x : Int) (a : Option Addr) (cap : Nat) (L : List It) (w : World) (h : MemAt w b O M) (hS : SlAt 2 w a cap L.length (flatI L)) (hO : ∀ j, inB a j → ¬ O j) (hL : L.length ≤ 1000000) (hck : M.clock < 4611686018427387904) :
    Calls Tryz.prog 159 #[.pointer (some ⟨b, 0, none⟩), .int .i64 i, .int .u64 v, .agg #[.int .i64 x, .slice a L.length cap]] w fun e w' => e = .returned (.bool (M.can i v)) ∧ MemAt w' b (own' O w w') (M.write i v x L) ∧ But O w w' := by
  rcases write_as (M := M) (i := i) (v := v) (x := x) (L := L) with ⟨h1, h2, k, rfl, hk, hv⟩ | ⟨h1, h2⟩
  · rw [h1, h2]
    exact write_yes b k O M v x a cap L w h hS hO hL hk hck hv
  · rw [h1, h2]
    refine (write_no b O M i v x _ w h h1).mono ?_
    rintro e w' ⟨rfl, hb⟩
    exact ⟨rfl, (h.below hb).own (fun k e => .inl e) (own'_lt h.lt hb.size), But.of_below hb⟩
/-- Force, whichever way it goes. -/
def inRange (i : Int) : Bool := decide (0 ≤ i ∧ i < 1000)
def Mem.force (M : Mem) (i x : Int) (L : List It) : Mem := if inRange i = true then M.put i.toNat x L else M
theorem force_all (b : Nat) (O : Nat → Prop) (M : Mem) (i x : Int) (a : Option Addr) (cap : Nat) (L : List It) (w : World) (h : MemAt w b O M) (hS : SlAt 2 w a cap L.length (flatI L)) (hO : ∀ j, inB a j → ¬ O j) (hL : L.length ≤ 1000000) (hck : M.clock < 4611686018427387904) :
    Calls Tryz.prog 161 #[.pointer (some ⟨b, 0, none⟩), .int .i64 i, .agg #[.int .i64 x, .slice a L.length cap]] w fun e w' => e = .returned (.bool (inRange i)) ∧ MemAt w' b (own' O w w') (M.force i x L) ∧ But O w w' := by
  by_cases hr : 0 ≤ i ∧ i < 1000
  · have hd : inRange i = true := decide_eq_true hr
    unfold Mem.force
    rw [hd, if_pos rfl]
    obtain ⟨k, rfl⟩ : ∃ k : Nat, i = (k : Int) := ⟨i.toNat, by omega⟩
    exact force_any b k O M x a cap L w h hS hO hL (by omega) hck
  · have hd : inRange i = false := decide_eq_false hr
    unfold Mem.force
    rw [hd, if_neg (by decide)]
    refine (force_no b i x _ w (by omega)).mono ?_
    rintro e w' ⟨rfl, hb⟩
    exact ⟨rfl, (h.below hb).own (fun k e => .inl e) (own'_lt h.lt hb.size), But.of_below hb⟩
end Go.Proofs.YtbcmilfajeanbaaGreat

namespace Go.Proofs.YtbcmilfajeanbaaGreat
open Go.RowKit Go.Sort

/-- An answer. -/
structure Ans where
  ok : Bool
  pri : Nat
  val : Int
  n : Int
def Ans.zero : Ans := ⟨false, 0, 0, 0⟩
abbrev Ans.l (a : Ans) : List Value := [.bool a.ok, .float .f64 a.pri, .int .i64 a.val, .int .i64 a.n]
abbrev Ans.v (a : Ans) : Value := .agg #[.bool a.ok, .float .f64 a.pri, .int .i64 a.val, .int .i64 a.n]

/-- An operation under way. -/
structure Fr where
  kind : Int
  pri : Nat
  val : Int
  d0 : Int
  d1 : Int
  pc : Int
  at_ : Int
  seen : Int
  seg : Int
  total : Int
  empty : Bool
  c0 : CV
  c1 : CV
/-- One that begins. -/
def Fr.of (kind : Int) (pri : Nat) (val d0 d1 : Int) : Fr := ⟨kind, pri, val, d0, d1, 0, 0, 0, 0, 0, false, CV.zero, CV.zero⟩
abbrev Fr.l (F : Fr) (a0 : Option Addr) (k0 : Nat) (a1 : Option Addr) (k1 : Nat) : List Value :=
  [.int .i64 F.kind, .float .f64 F.pri, .int .i64 F.val, .int .i64 F.d0, .int .i64 F.d1, .int .i64 F.pc, .int .i64 F.at_, .int .i64 F.seen, .int .i64 F.seg, .int .i64 F.total, .bool F.empty,
    .int .u64 F.c0.ver, .int .i64 F.c0.n, .slice a0 F.c0.L.length k0, .int .u64 F.c1.ver, .int .i64 F.c1.n, .slice a1 F.c1.L.length k1]
/-- It lies at block fb; P: the blocks that it owns. -/
structure FrAt (w : World) (fb : Nat) (P : Nat → Prop) (F : Fr) : Prop where
  ob : P fb
  lt : ∀ k, P k → k < w.heap.size
  box : ∃ a0 k0 a1 k1, BoxAt w fb (F.l a0 k0 a1 k1) ∧ SlAt 2 w a0 k0 F.c0.L.length (flatI F.c0.L) ∧ SlAt 2 w a1 k1 F.c1.L.length (flatI F.c1.L) ∧ (∀ j, inB a0 j → P j ∧ j ≠ fb) ∧ (∀ j, inB a1 j → P j ∧ j ≠ fb)
theorem FrAt.but {w w' : World} {fb : Nat} {P S : Nat → Prop} {F : Fr} (h : FrAt w fb P F) (hb : But S w w') (hS : ∀ k, P k → ¬ S k) : FrAt w' fb P F := by
  obtain ⟨a0, k0, a1, k1, h1, h2, h3, h4, h5⟩ := h.box
  exact ⟨h.ob, fun k hk => Nat.lt_of_lt_of_le (h.lt k hk) hb.size, a0, k0, a1, k1, h1.but hb (hS fb h.ob), h2.but hb (fun j hj => hS j (h4 j hj).1), h3.but hb (fun j hj => hS j (h5 j hj).1), h4, h5⟩
theorem FrAt.below {w w' : World} {fb : Nat} {P : Nat → Prop} {F : Fr} (h : FrAt w fb P F) (hb : Below w.heap.size w w') : FrAt w' fb P F := h.but (S := fun _ => False) (But.of_below hb) (fun _ _ e => e)

/-- What a machine's step does: the memory, the operation, the answer, is it done? -/
abbrev StepFn := Mem → Fr → Mem × Fr × Ans × Bool
/-- Some blocks, and new ones. -/
def Grown (O : Nat → Prop) (w w' : World) (O' : Nat → Prop) : Prop := ∀ k, O' k → O k ∨ (w.heap.size ≤ k ∧ k < w'.heap.size)
theorem Grown.refl (O : Nat → Prop) (w w' : World) : Grown O w w' O := fun _ h => .inl h
theorem Grown.trans {O O' O2 : Nat → Prop} {w w1 w2 : World} (h : Grown O w w1 O') (k : Grown O' w1 w2 O2) (h1 : w.heap.size ≤ w1.heap.size) (h2 : w1.heap.size ≤ w2.heap.size) : Grown O w w2 O2 := fun j hj => by
  rcases k j hj with e | e
  · rcases h j e with e | e
    · exact .inl e
    · exact .inr ⟨e.1, by omega⟩
  · exact .inr ⟨by omega, e.2⟩
theorem Grown.own' (O : Nat → Prop) (w w' : World) : Grown O w w' (own' O w w') := fun _ h => h
/-- How a step ends. -/
def StepEnd (b fb : Nat) (O P : Nat → Prop) (r : Mem × Fr × Ans × Bool) (w : World) (e : Ending) (w' : World) : Prop :=
  e = .returned (.tuple #[r.2.2.1.v, .bool r.2.2.2]) ∧ ∃ O' P', MemAt w' b O' r.1 ∧ FrAt w' fb P' r.2.1 ∧ (∀ k, O' k → ¬ P' k) ∧ Grown O w w' O' ∧ Grown P w w' P' ∧ But (fun k => O k ∨ P k) w w'
/-- Function f is a machine's step. -/
def IsStep (f : FuncId) (recv : Value) (G : Mem → Fr → Prop) (st : StepFn) : Prop :=
  ∀ (w : World) (b fb : Nat) (O P : Nat → Prop) (M : Mem) (F : Fr), MemAt w b O M → FrAt w fb P F → (∀ k, O k → ¬ P k) → G M F → M.clock < 4611686018427387904 →
    Calls Tryz.prog f #[recv, .pointer (some ⟨b, 0, none⟩), .pointer (some ⟨fb, 0, none⟩)] w (StepEnd b fb O P (st M F) w)
end Go.Proofs.YtbcmilfajeanbaaGreat

namespace Go.Proofs.YtbcmilfajeanbaaGreat
open Go.RowKit

theorem into_any (d n : Int) (w : World) (hn : n ≤ 9223372036854775807) :
    Calls Tryz.prog 35 #[.int .i64 d, .int .i64 n] w fun e w' => e = .returned (.int .i64 (into d n)) ∧ w' = w := by
  by_cases h : n < 1
  · rw [into_lo h]
    go_enter Tryz.func35, Tryz.ntmps35
    go_wp2
    go_ret
    exact ⟨rfl, rfl⟩
  · rw [into_hi h]
    have h1 : decide (n < 1) = false := decide_eq_false h
    have hn0 : (n == 0) = false := by simp; omega
    have hn1 : 1 ≤ n := by omega
    by_cases hm : d.tmod n < 0
    · have e1 := tmod_emod_neg hn1 hm
      have e2 := Int.lt_tmod_of_pos d (show 0 < n by omega)
      have hw : wrap64 (d.tmod n + n) = d % n := by unfold wrap64; omega
      have HW : Hid (∀ _ : Unit, wrap64 (d.tmod n + n) = d % n) := fun _ => hw
      clear e1 hw e2
      go_enter Tryz.func35, Tryz.ntmps35
      go_wp2
      go_ret
      exact ⟨by rw [← HW ()]; rfl, rfl⟩
    · have e1 : d.tmod n = d % n := tmod_emod_nonneg hn1 (by omega)
      have HW : Hid (∀ _ : Unit, d.tmod n = d % n) := fun _ => e1
      have hm1 : decide (d.tmod n < 0) = false := decide_eq_false hm
      clear e1
      go_enter Tryz.func35, Tryz.ntmps35
      go_wp2
      go_ret
      exact ⟨by rw [← HW ()]; rfl, rfl⟩

end Go.Proofs.YtbcmilfajeanbaaGreat
