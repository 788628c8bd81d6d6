/-
  Layer 5: a memory: what it holds, and its calls: contracts.
-/
import Derived.Test.YthhechgjablklaaCell5
namespace Go.Proofs.Ythhechgjablklaa
open Go.RowKit Go.Sort

/-- A cell: its version, its number, its items. -/
structure CV where
  ver : Int
  n : Int
  L : List It
def CV.zero : CV := ⟨0, 0, []⟩
/-- A memory: how many cells, each of them, how many writes. -/
structure Mem where
  len : Nat
  cell : Nat → CV
  clock : Nat
def Mem.empty : Mem := ⟨0, fun _ => CV.zero, 0⟩
def Mem.reach (M : Mem) (n : Nat) : Mem := { M with len := max M.len n }
def Mem.put (M : Mem) (i : Nat) (n : Int) (L : List It) : Mem := ⟨max M.len (i + 1), fun j => if j = i then ⟨((M.clock + 1 : Nat) : Int), n, L⟩ else M.cell j, M.clock + 1⟩

def cellC (M : Mem) (A : Nat → Option Addr) (C : Nat → Nat) (t : Nat) : Value :=
  if t % 3 = 0 then .int .u64 (M.cell (t / 3)).ver else if t % 3 = 1 then .int .i64 (M.cell (t / 3)).n else .slice (A (t / 3)) (M.cell (t / 3)).L.length (C (t / 3))
def flatC (M : Mem) (A : Nat → Option Addr) (C : Nat → Nat) : List Value := (List.range (M.len * 3)).map (cellC M A C)
theorem flatC_length (M : Mem) (A : Nat → Option Addr) (C : Nat → Nat) : (flatC M A C).length = M.len * 3 := by simp [flatC]
theorem flatC_get (M : Mem) (A : Nat → Option Addr) (C : Nat → Nat) (t : Nat) (h : t < M.len * 3) : (flatC M A C)[t]? = some (cellC M A C t) := by simp [flatC, h]
theorem flatC_0 (M : Mem) (A : Nat → Option Addr) (C : Nat → Nat) (i : Nat) (h : i < M.len) : (flatC M A C)[i * 3]? = some (.int .u64 (M.cell i).ver) := by
  rw [flatC_get M A C _ (by omega)]; unfold cellC; rw [if_pos (by omega), show i * 3 / 3 = i by omega]
theorem flatC_1 (M : Mem) (A : Nat → Option Addr) (C : Nat → Nat) (i : Nat) (h : i < M.len) : (flatC M A C)[i * 3 + 1]? = some (.int .i64 (M.cell i).n) := by
  rw [flatC_get M A C _ (by omega)]; unfold cellC; rw [if_neg (by omega), if_pos (by omega), show (i * 3 + 1) / 3 = i by omega]
theorem flatC_2 (M : Mem) (A : Nat → Option Addr) (C : Nat → Nat) (i : Nat) (h : i < M.len) : (flatC M A C)[i * 3 + 2]? = some (.slice (A i) (M.cell i).L.length (C i)) := by
  rw [flatC_get M A C _ (by omega)]; unfold cellC; rw [if_neg (by omega), if_neg (by omega), show (i * 3 + 2) / 3 = i by omega]

/-- The row of a memory's cells, and their items. -/
structure RowC (w : World) (b : Nat) (O : Nat → Prop) (M : Mem) (a : Option Addr) (cap : Nat) (A : Nat → Option Addr) (C : Nat → Nat) : Prop where
  hd : w.cell? ⟨b, 0, none⟩ = some (.slice a M.len cap)
  sl : SlAt 3 w a cap M.len (flatC M A C)
  own : ∀ j, inB a j → O j ∧ j ≠ b
  its : ∀ i, i < M.len → SlAt 2 w (A i) (C i) (M.cell i).L.length (flatI (M.cell i).L)
  ito : ∀ i, i < M.len → ∀ j, inB (A i) j → O j ∧ j ≠ b ∧ ¬ inB a j
structure MemAt (w : World) (b : Nat) (O : Nat → Prop) (M : Mem) : Prop where
  ob : O b
  lt : ∀ k, O k → k < w.heap.size
  row : ∃ a cap A C, RowC w b O M a cap A C
  clk : w.cell? ⟨b, 1, none⟩ = some (.int .u64 (M.clock : Int))
  fz0 : w.frozen? ⟨b, 0, none⟩ = false
  fz1 : w.frozen? ⟨b, 1, none⟩ = false
  max : M.len ≤ 1000
  rest : ∀ i, M.len ≤ i → M.cell i = CV.zero
  few : ∀ i, (M.cell i).L.length ≤ 1000000

section
variable {w w' : World} {b : Nat} {O S : Nat → Prop} {M : Mem}
theorem RowC.but {a : Option Addr} {cap : Nat} {A : Nat → Option Addr} {C : Nat → Nat} (h : RowC w b O M a cap A C) (hl : b < w.heap.size) (hb : But S w w') (hS : ∀ k, O k → ¬ S k) (hO : O b) : RowC w' b O M a cap A C :=
  ⟨by rw [hb.cell (p := ⟨b, 0, none⟩) hl (hS b hO)]; exact h.hd, h.sl.but hb (fun j hj => hS j (h.own j hj).1), h.own, fun i hi => (h.its i hi).but hb (fun j hj => hS j (h.ito i hi j hj).1), h.ito⟩
theorem MemAt.but (h : MemAt w b O M) (hb : But S w w') (hS : ∀ k, O k → ¬ S k) : MemAt w' b O M := by
  have hl := h.lt b h.ob
  obtain ⟨a, cap, A, C, hr⟩ := h.row
  exact ⟨h.ob, fun k hk => Nat.lt_of_lt_of_le (h.lt k hk) hb.size, ⟨a, cap, A, C, hr.but hl hb hS h.ob⟩, by rw [hb.cell (p := ⟨b, 1, none⟩) hl (hS b h.ob)]; exact h.clk,
    by rw [hb.frozen (p := ⟨b, 0, none⟩) hl (hS b h.ob)]; exact h.fz0, by rw [hb.frozen (p := ⟨b, 1, none⟩) hl (hS b h.ob)]; exact h.fz1, h.max, h.rest, h.few⟩
theorem MemAt.below (h : MemAt w b O M) (hb : Below w.heap.size w w') : MemAt w' b O M := h.but (S := fun _ => False) (But.of_below hb) (fun _ _ e => e)
end

/-- What is owned, with what has come since. -/
def own' (O : Nat → Prop) (w w' : World) (k : Nat) : Prop := O k ∨ (w.heap.size ≤ k ∧ k < w'.heap.size)

theorem new5_any (w : World) : Calls Try.prog 36 #[] w fun e w' => e = .returned (.pointer (some ⟨w.heap.size, 0, none⟩)) ∧ MemAt w' w.heap.size (fun k => k = w.heap.size) Mem.empty ∧ Below w.heap.size w w' := by
  go_enter Try.func36, Try.ntmps36
  go_wp2
  go_ret
  refine ⟨rfl, ⟨rfl, fun k hk => by rw [hk]; simp, ⟨none, 0, fun _ => none, fun _ => 0, ?_⟩, ?_, ?_, ?_, Nat.zero_le _, fun _ _ => rfl, fun _ => Nat.zero_le _⟩, (Below.refl _ _).alloc (Nat.le_refl _) _⟩
  · refine ⟨by rw [World.cell?_alloc_new]; rfl, SlAt.nil _ _, (fun j hj => by obtain ⟨x, hx, _⟩ := hj; cases hx), fun i hi => absurd hi (Nat.not_lt_zero _), fun i hi => absurd hi (Nat.not_lt_zero _)⟩
  · rw [World.cell?_alloc_new]; rfl
  · exact World.frozen?_alloc_new w _ _ _
  · exact World.frozen?_alloc_new w _ _ _
theorem len5_any (b : Nat) (O : Nat → Prop) (M : Mem) (w : World) (h : MemAt w b O M) : Calls Try.prog 51 #[.pointer (some ⟨b, 0, none⟩)] w fun e w' => e = .returned (.int .i64 (M.len : Int)) ∧ w' = w := by
  obtain ⟨a, cap, A, C, hr⟩ := h.row
  have hd := hr.hd
  clear hr h
  go_enter Try.func51, Try.ntmps51
  go_wp2
  go_ret
  exact ⟨rfl, rfl⟩
theorem clock5_any (b : Nat) (O : Nat → Prop) (M : Mem) (w : World) (h : MemAt w b O M) : Calls Try.prog 41 #[.pointer (some ⟨b, 0, none⟩)] w fun e w' => e = .returned (.int .u64 (M.clock : Int)) ∧ w' = w := by
  have hd := h.clk
  clear h
  go_enter Try.func41, Try.ntmps41
  go_wp2
  go_ret
  exact ⟨rfl, rfl⟩

/-- The cell of a number, or a zero one. -/
def Mem.look (M : Mem) (i : Int) : CV := if i < 0 then CV.zero else M.cell i.toNat
theorem look_neg {M : Mem} {i : Int} (h : i < 0) : M.look i = CV.zero := if_pos h
theorem look_nat {M : Mem} (i : Nat) : M.look (i : Int) = M.cell i := by unfold Mem.look; rw [if_neg (by omega)]; rfl

theorem version_any (b : Nat) (O : Nat → Prop) (M : Mem) (i : Int) (w : World) (h : MemAt w b O M) :
    Calls Try.prog 75 #[.pointer (some ⟨b, 0, none⟩), .int .i64 i] w fun e w' => e = .returned (.int .u64 (M.look i).ver) ∧ w' = w := by
  obtain ⟨a, cap, A, C, hr⟩ := h.row
  have hd := hr.hd
  have hmax := h.max
  by_cases h0 : i < 0
  · rw [look_neg h0]
    clear hr h
    go_enter Try.func75, Try.ntmps75
    go_wp2
    go_ret
    exact ⟨rfl, rfl⟩
  · have h0' : decide (i < 0) = false := decide_eq_false h0
    obtain ⟨k, rfl⟩ : ∃ k : Nat, i = (k : Int) := ⟨i.toNat, by omega⟩
    rw [look_nat]
    by_cases h1 : M.len ≤ k
    · rw [h.rest k h1]
      have h1i : (M.len : Int) ≤ (k : Int) := by omega
      clear hr h
      generalize M.len = n at *
      go_enter Try.func75, Try.ntmps75
      go_wp2
      go_ret
      exact ⟨rfl, rfl⟩
    · have h1' : decide ((M.len : Int) ≤ (k : Int)) = false := decide_eq_false (by omega)
      have h1i : (k : Int) < (M.len : Int) := by omega
      obtain ⟨g, rfl, hg, hc⟩ := hr.sl.cell (flatC_0 M A C k (by omega))
      have hle := hr.sl.le
      generalize (M.cell k).ver = v at *
      clear hr h
      generalize M.len = n at *
      go_enter Try.func75, Try.ntmps75
      go_wp2
      go_ret
      exact ⟨rfl, rfl⟩

theorem read5_any (b : Nat) (O : Nat → Prop) (M : Mem) (i : Int) (w : World) (h : MemAt w b O M) :
    Calls Try.prog 34 #[.pointer (some ⟨b, 0, none⟩), .int .i64 i] w fun e w' => ∃ a' cap', e = .returned (.agg #[.int .u64 (M.look i).ver, .int .i64 (M.look i).n, .slice a' (M.look i).L.length cap']) ∧
      SlAt 2 w' a' cap' (M.look i).L.length (flatI (M.look i).L) ∧ (∀ j, inB a' j → w.heap.size ≤ j) ∧ Below w.heap.size w w' := by
  obtain ⟨a, cap, A, C, hr⟩ := h.row
  have hd := hr.hd
  have hmax := h.max
  have hbl := h.lt b h.ob
  have hz : ∀ W, M.look i = CV.zero → Below w.heap.size w W → ∃ a' cap', Value.agg #[.int .u64 0, .int .i64 0, .slice none 0 0] = Value.agg #[.int .u64 (M.look i).ver, .int .i64 (M.look i).n, .slice a' (M.look i).L.length cap'] ∧
      SlAt 2 W a' cap' (M.look i).L.length (flatI (M.look i).L) ∧ (∀ j, inB a' j → w.heap.size ≤ j) ∧ Below w.heap.size w W := fun W e hB => by
    rw [e]
    exact ⟨none, 0, rfl, SlAt.nil _ _, (fun j hj => by obtain ⟨x, hx, _⟩ := hj; cases hx), hB⟩
  by_cases h0 : i < 0
  · have HZ := hidq (fun W => hz W (look_neg h0))
    clear hr h hz
    go_enter Try.func34, Try.ntmps34
    go_wp2
    obtain ⟨a', cap', hv, hq⟩ := HZ.out _ ((Below.refl _ _).alloc (Nat.le_refl _) _)
    exact bodyPost_ret (v := .agg #[.int .u64 0, .int .i64 0, .slice none 0 0]) (by simp [results, Try.results34, go_sem]) rfl ⟨a', cap', congrArg _ hv, hq⟩
  · have h0' : decide (i < 0) = false := decide_eq_false h0
    obtain ⟨k, rfl⟩ : ∃ k : Nat, i = (k : Int) := ⟨i.toNat, by omega⟩
    by_cases h1 : M.len ≤ k
    · have HZ := hidq (fun W => hz W (by rw [look_nat]; exact h.rest k h1))
      have h1i : (M.len : Int) ≤ (k : Int) := by omega
      clear hr h hz
      generalize M.len = n at *
      go_enter Try.func34, Try.ntmps34
      go_wp2
      obtain ⟨a', cap', hv, hq⟩ := HZ.out _ ((Below.refl _ _).alloc (Nat.le_refl _) _)
      exact bodyPost_ret (v := .agg #[.int .u64 0, .int .i64 0, .slice none 0 0]) (by simp [results, Try.results34, go_sem]) rfl ⟨a', cap', congrArg _ hv, hq⟩
    · rw [look_nat]
      have h1' : decide ((M.len : Int) ≤ (k : Int)) = false := decide_eq_false (by omega)
      have h1i : (k : Int) < (M.len : Int) := by omega
      obtain ⟨g, rfl, hg, hc0⟩ := hr.sl.cell (flatC_0 M A C k (by omega))
      obtain ⟨g1, e1, _, hc1⟩ := hr.sl.cell (flatC_1 M A C k (by omega))
      obtain ⟨g2, e2, _, hc2⟩ := hr.sl.cell (flatC_2 M A C k (by omega))
      cases e1; cases e2
      have hcp := hidq (copied_any (M.cell k).ver (M.cell k).n (A k) (C k) _ _ (w.alloc (boxC 0 0 (.slice none 0 0))) ((hr.its k (by omega)).but (S := fun _ => False) ((But.refl _ _).alloc _) (fun _ _ e => e)) (h.few k))
      have hle := hr.sl.le
      generalize (M.cell k).ver = v at *
      generalize (M.cell k).n = x at *
      generalize (M.cell k).L = L at *
      generalize A k = ak at *
      generalize C k = ck at *
      clear hr h hz
      generalize M.len = n at *
      go_enter Try.func34, Try.ntmps34
      go_wp2_with fail
      refine hcp.out.mono ?_
      rintro e w1 ⟨a', cap', rfl, hS, hF, hb⟩
      have hz2 : w.heap.size < w1.heap.size := by have := hb.size; simp at this; omega
      have d0 : w1.cell? ⟨w.heap.size, 0, none⟩ = some (.int .u64 0) := by rw [hb.cell (p := ⟨w.heap.size, 0, none⟩) (by simp)]; simp
      have d1 : w1.cell? ⟨w.heap.size, 1, none⟩ = some (.int .i64 0) := by rw [hb.cell (p := ⟨w.heap.size, 1, none⟩) (by simp)]; simp
      have d2 : w1.cell? ⟨w.heap.size, 2, none⟩ = some (.slice none 0 0) := by rw [hb.cell (p := ⟨w.heap.size, 2, none⟩) (by simp)]; simp
      have z0 : w1.frozen? ⟨w.heap.size, 0, none⟩ = false := by rw [hb.frozen (p := ⟨w.heap.size, 0, none⟩) (by simp)]; simp
      have z1 : w1.frozen? ⟨w.heap.size, 1, none⟩ = false := by rw [hb.frozen (p := ⟨w.heap.size, 1, none⟩) (by simp)]; simp
      have z2 : w1.frozen? ⟨w.heap.size, 2, none⟩ = false := by rw [hb.frozen (p := ⟨w.heap.size, 2, none⟩) (by simp)]; simp
      have hB0 : Below w.heap.size w w1 := ((Below.refl _ _).alloc (Nat.le_refl _) _).trans (hb.mono (by simp))
      have hfin := hidq (fun w2 (h2 : But (fun j => j = w.heap.size) w1 w2) => (show SlAt 2 w2 a' cap' L.length (flatI L) ∧ (∀ j, inB a' j → w.heap.size ≤ j) ∧ Below w.heap.size w w2 from
        ⟨hS.but h2 (fun j hj e => by have := hF j hj; simp at this; omega), fun j hj => by have := hF j hj; simp at this; omega, hB0.trans (h2.below hB0.size (fun j e => by omega))⟩))
      clear hb hS hF hB0 hcp
      go_wp2
      refine bodyPost_ret (v := .agg #[.int .u64 v, .int .i64 x, .slice a' L.length cap']) (by simp [results, Try.results34, go_sem, d0, d1, d2]) rfl ⟨a', cap', rfl, hfin.out _ ?_⟩
      exact (((But.refl (fun j => j = w.heap.size) w1).set1 _ _ rfl _).set1 _ _ rfl _).set1 _ _ rfl _

/-- How many cells a memory's row has. -/
def lenIn (w : World) (b : Nat) : Nat := match w.cell? ⟨b, 0, none⟩ with | some (.slice _ n _) => n | _ => 0
theorem lenIn_at {w : World} {b : Nat} {O : Nat → Prop} {M : Mem} (h : MemAt w b O M) : lenIn w b = M.len := by
  obtain ⟨a, cap, A, C, hr⟩ := h.row
  unfold lenIn; rw [hr.hd]
theorem plainC : PlainK Try.prog 3 147 69 := by
  have h : (Try.prog.info? 69).map (fun i => (i.zero, i.size, i.bytes)) = some (some (.agg #[.int .u64 0, .int .i64 0, .slice none 0 0]), 3, 40) := by kernel_rfl
  obtain ⟨i, hi, he⟩ := Option.map_eq_some_iff.1 h
  simp only [Prod.mk.injEq] at he
  exact ⟨i, _, Try.underlying147, hi, he.1, he.2.1, rfl, by rw [he.2.2]; decide⟩

/-- One cell more at the end. -/
theorem flatC_snoc (M : Mem) (A : Nat → Option Addr) (C : Nat → Nat) (hz : M.cell M.len = CV.zero) :
    flatC (M.reach (M.len + 1)) (fun i => if i = M.len then none else A i) (fun i => if i = M.len then 0 else C i) = flatC M A C ++ [.int .u64 0, .int .i64 0, .slice none 0 0] := by
  have hm : (M.reach (M.len + 1)).len = M.len + 1 := by show max M.len (M.len + 1) = _; omega
  have hcell : ∀ j, (M.reach (M.len + 1)).cell j = M.cell j := fun _ => rfl
  apply List.ext_getElem?
  intro t
  by_cases ht : t < M.len * 3
  · rw [flatC_get _ _ _ t (by rw [hm]; omega), List.getElem?_append_left (by rw [flatC_length]; exact ht), flatC_get _ _ _ t ht]
    unfold cellC
    dsimp only
    rw [hcell, if_neg (show ¬ t / 3 = M.len by omega), if_neg (show ¬ t / 3 = M.len by omega)]
  · rw [List.getElem?_append_right (by rw [flatC_length]; omega), flatC_length]
    by_cases ht2 : t < (M.len + 1) * 3
    · rw [flatC_get _ _ _ t (by rw [hm]; exact ht2)]
      have : t = M.len * 3 ∨ t = M.len * 3 + 1 ∨ t = M.len * 3 + 2 := by omega
      unfold cellC
      rw [hcell]
      rcases this with rfl | rfl | rfl
      · rw [if_pos (by omega), show M.len * 3 / 3 = M.len by omega, hz, show M.len * 3 - M.len * 3 = 0 by omega]; rfl
      · rw [if_neg (by omega), if_pos (by omega), show (M.len * 3 + 1) / 3 = M.len by omega, hz, show M.len * 3 + 1 - M.len * 3 = 1 by omega]; rfl
      · rw [if_neg (by omega), if_neg (by omega), show (M.len * 3 + 2) / 3 = M.len by omega, hz, show M.len * 3 + 2 - M.len * 3 = 2 by omega]; dsimp only; rw [if_pos rfl, if_pos rfl]; rfl
    · rw [List.getElem?_eq_none (by rw [flatC_length, hm]; omega), List.getElem?_eq_none (by simp; omega)]

/-! Parts of a cell, of a value. -/
theorem fldC_0 (x y z : Value) (w : World) : (Instr.field 69 (.agg #[x, y, z]) 0).run Try.prog w = .ok x w := by kernel_rfl
theorem fldC_1 (x y z : Value) (w : World) : (Instr.field 69 (.agg #[x, y, z]) 1).run Try.prog w = .ok (.agg #[y, z]) w := by kernel_rfl
theorem fldV_0 (x y : Value) (w : World) : (Instr.field 67 (.agg #[x, y]) 0).run Try.prog w = .ok x w := by kernel_rfl
theorem fldV_1 (x y : Value) (w : World) : (Instr.field 67 (.agg #[x, y]) 1).run Try.prog w = .ok y w := by kernel_rfl
end Go.Proofs.Ythhechgjablklaa
