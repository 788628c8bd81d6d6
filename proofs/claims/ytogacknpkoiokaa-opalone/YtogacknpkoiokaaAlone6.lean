/-
  Layer 6: an operation that nobody disturbs, on the law's machine: contract.
-/
import Derived.Test.YtogacknpkoiokaaSlow6
namespace Go.Proofs.Ytogacknpkoiokaa
open Go.RowKit Go.Sort

theorem mStep (w : World) : (method 299 105 (.agg #[]) "Step").run Try.prog w = .ok (123, .agg #[]) w := by kernel_rfl

theorem four (w : World) (b : Nat) (o : Obj) (v0 v1 v2 v3 u0 u1 u2 u3 : Value) (h0 : w.cell? ⟨b, 0, none⟩ = some u0) (h1 : w.cell? ⟨b, 1, none⟩ = some u1) (h2 : w.cell? ⟨b, 2, none⟩ = some u2) (h3 : w.cell? ⟨b, 3, none⟩ = some u3) (hb : b < w.heap.size) :
    let W := (((((w.setCell ⟨b, 0, none⟩ v0).setCell ⟨b, 1, none⟩ v1).setCell ⟨b, 2, none⟩ v2).setCell ⟨b, 3, none⟩ v3).alloc o)
    (W.cell? ⟨b, 0, none⟩ = some v0 ∧ W.cell? ⟨b, 1, none⟩ = some v1) ∧ W.cell? ⟨b, 2, none⟩ = some v2 ∧ W.cell? ⟨b, 3, none⟩ = some v3 := by
  have hl : ∀ i, (((((w.setCell ⟨b, 0, none⟩ v0).setCell ⟨b, 1, none⟩ v1).setCell ⟨b, 2, none⟩ v2).setCell ⟨b, 3, none⟩ v3).alloc o).cell? ⟨b, i, none⟩ = (((((w.setCell ⟨b, 0, none⟩ v0).setCell ⟨b, 1, none⟩ v1).setCell ⟨b, 2, none⟩ v2).setCell ⟨b, 3, none⟩ v3)).cell? ⟨b, i, none⟩ := fun i =>
    World.cell?_alloc_lt _ _ _ (by show b < _; rw [World.size_setCell, World.size_setCell, World.size_setCell, World.size_setCell]; exact hb)
  intro W
  have n : ∀ p q : Nat, p ≠ q → (⟨b, p, none⟩ : Addr) ≠ ⟨b, q, none⟩ := fun p q hpq e => by injection e with _ e2; exact hpq e2
  refine ⟨⟨?_, ?_⟩, ?_, ?_⟩
  · rw [hl, World.cell?_setCell_other _ _ _ _ (n _ _ (by decide)), World.cell?_setCell_other _ _ _ _ (n _ _ (by decide)), World.cell?_setCell_other _ _ _ _ (n _ _ (by decide)), World.cell?_setCell_same' _ _ _ (by rw [h0]; rfl)]
  · rw [hl, World.cell?_setCell_other _ _ _ _ (n _ _ (by decide)), World.cell?_setCell_other _ _ _ _ (n _ _ (by decide)), World.cell?_setCell_same' _ _ _ (by rw [World.cell?_setCell_other _ _ _ _ (n _ _ (by decide)), h1]; rfl)]
  · rw [hl, World.cell?_setCell_other _ _ _ _ (n _ _ (by decide)), World.cell?_setCell_same' _ _ _ (by rw [World.cell?_setCell_other _ _ _ _ (n _ _ (by decide)), World.cell?_setCell_other _ _ _ _ (n _ _ (by decide)), h2]; rfl)]
  · rw [hl, World.cell?_setCell_same' _ _ _ (by rw [World.cell?_setCell_other _ _ _ _ (n _ _ (by decide)), World.cell?_setCell_other _ _ _ _ (n _ _ (by decide)), World.cell?_setCell_other _ _ _ _ (n _ _ (by decide)), h3]; rfl)]

/-- How it ends. -/
def AloneEnd (b : Nat) (O : Nat → Prop) (v most : Int) (w : World) (e : Ending) (w' : World) : Prop :=
  ∃ O' M', MemAt w' b O' M' ∧ But O w w' ∧ ((most < max v 1 ∧ e = .returned (.tuple #[.agg #[.bool false, .float .f64 0, .int .i64 0, .int .i64 0], .bool false]) ∧ (M'.cell 0).n = max most 0) ∨
        (max v 1 ≤ most ∧ e = .returned (.tuple #[.agg #[.bool true, .float .f64 0, .int .i64 0, .int .i64 (max v 1)], .bool true]) ∧ (M'.cell 0).n = max v 1))

set_option maxHeartbeats 4000000 in
theorem alone_any (b : Nat) (O : Nat → Prop) (v most : Int) (w : World) (h : MemAt w b O Mem.empty) (hv : 0 ≤ v ∧ v ≤ 63) (hm : most ≤ 50) :
    Calls Try.prog 46 #[.iface 105 (.agg #[]), .pointer (some ⟨b, 0, none⟩), .agg #[.int .i64 3, .float .f64 0, .int .i64 v, .int .i64 0, .int .i64 0], .int .i64 most] w (AloneEnd b O v most w) := by
  have hsf := run_store_flt (P := Try.prog)
  have hms := mStep
  go_enter Try.func46, Try.ntmps46
  go_wp2_with fail
  obtain ⟨W1, hW1⟩ : ∃ W1, ((w.alloc (.cells #[.int .i64 3, .float .f64 0, .int .i64 v, .int .i64 0, .int .i64 0] 92)).alloc (.cells #[.bool false, .float .f64 0, .int .i64 0, .int .i64 0] 101)).alloc
    (.cells #[.int .i64 3, .float .f64 0, .int .i64 v, .int .i64 0, .int .i64 0, .int .i64 0, .int .i64 0, .int .i64 0, .int .i64 0, .int .i64 0, .bool false, .int .u64 0, .int .i64 0, .slice none 0 0, .int .u64 0, .int .i64 0, .slice none 0 0] 143) = W1 := ⟨_, rfl⟩
  have hb1 : But (fun _ => False) w W1 := by rw [← hW1]; exact (((But.refl _ _).alloc _).alloc _).alloc _
  have hz1 : W1.heap.size = w.heap.size + 3 := by rw [← hW1]; simp
  have hs2 : ((w.alloc (.cells #[.int .i64 3, .float .f64 0, .int .i64 v, .int .i64 0, .int .i64 0] 92)).alloc (.cells #[.bool false, .float .f64 0, .int .i64 0, .int .i64 0] 101)).heap.size = w.heap.size + 1 + 1 := by rw [World.size_alloc, World.size_alloc]
  have hs1 : (w.alloc (.cells #[.int .i64 3, .float .f64 0, .int .i64 v, .int .i64 0, .int .i64 0] 92)).heap.size = w.heap.size + 1 := by rw [World.size_alloc]
  have f7 : W1.cell? ⟨w.heap.size + 1 + 1, 7, none⟩ = some (.int .i64 ((0 : Nat) : Int)) ∧ W1.cell? ⟨w.heap.size + 1 + 1, 2, none⟩ = some (.int .i64 v) ∧ W1.frozen? ⟨w.heap.size + 1 + 1, 7, none⟩ = false := by
    rw [← hW1, ← hs2]; exact ⟨(World.cell?_alloc_new _ _ _ 7).trans rfl, (World.cell?_alloc_new _ _ _ 2).trans rfl, World.frozen?_alloc_new _ _ _ _⟩
  have hb2 : But (fun _ => False) ((w.alloc (.cells #[.int .i64 3, .float .f64 0, .int .i64 v, .int .i64 0, .int .i64 0] 92)).alloc (.cells #[.bool false, .float .f64 0, .int .i64 0, .int .i64 0] 101)) W1 := by rw [← hW1]; exact (But.refl _ _).alloc _
  have hal0 : w.heap.size + 1 < ((w.alloc (.cells #[.int .i64 3, .float .f64 0, .int .i64 v, .int .i64 0, .int .i64 0] 92)).alloc (.cells #[.bool false, .float .f64 0, .int .i64 0, .int .i64 0] 101)).heap.size := by rw [hs2]; omega
  have a0 : (W1.cell? ⟨w.heap.size + 1, 0, none⟩ = some (.bool false) ∧ W1.cell? ⟨w.heap.size + 1, 1, none⟩ = some (.float .f64 0)) ∧ W1.cell? ⟨w.heap.size + 1, 2, none⟩ = some (.int .i64 0) ∧ W1.cell? ⟨w.heap.size + 1, 3, none⟩ = some (.int .i64 0) := by
    rw [hb2.cell (p := ⟨w.heap.size + 1, 0, none⟩) hal0 id, hb2.cell (p := ⟨w.heap.size + 1, 1, none⟩) hal0 id, hb2.cell (p := ⟨w.heap.size + 1, 2, none⟩) hal0 id, hb2.cell (p := ⟨w.heap.size + 1, 3, none⟩) hal0 id, ← hs1]
    exact ⟨⟨(World.cell?_alloc_new _ _ _ 0).trans rfl, (World.cell?_alloc_new _ _ _ 1).trans rfl⟩, (World.cell?_alloc_new _ _ _ 2).trans rfl, (World.cell?_alloc_new _ _ _ 3).trans rfl⟩
  have a1 : (W1.frozen? ⟨w.heap.size + 1, 0, none⟩ = false ∧ W1.frozen? ⟨w.heap.size + 1, 1, none⟩ = false) ∧ W1.frozen? ⟨w.heap.size + 1, 2, none⟩ = false ∧ W1.frozen? ⟨w.heap.size + 1, 3, none⟩ = false := by
    rw [hb2.frozen (p := ⟨w.heap.size + 1, 0, none⟩) hal0 id, hb2.frozen (p := ⟨w.heap.size + 1, 1, none⟩) hal0 id, hb2.frozen (p := ⟨w.heap.size + 1, 2, none⟩) hal0 id, hb2.frozen (p := ⟨w.heap.size + 1, 3, none⟩) hal0 id, ← hs1]
    exact ⟨⟨World.frozen?_alloc_new _ _ _ _, World.frozen?_alloc_new _ _ _ _⟩, World.frozen?_alloc_new _ _ _ _, World.frozen?_alloc_new _ _ _ _⟩
  clear hs2 hs1 hb2 hal0
  have hM1 := h.but hb1 (fun _ _ e => e)
  rw [hW1]
  have hOf : ∀ k, O k → k < w.heap.size := h.lt
  clear hW1 h
  obtain ⟨fb, hfb⟩ : ∃ fb, w.heap.size + 1 + 1 = fb := ⟨_, rfl⟩
  obtain ⟨ab, hab⟩ : ∃ ab, w.heap.size + 1 = ab := ⟨_, rfl⟩
  rw [hfb] at f7
  rw [hab] at a0 a1
  have hLt := hidq (And.intro hfb (And.intro hab hz1))
  rw [hfb, hab]
  clear hfb hab hz1
  have hm1 := hm
  go_loopw [17] (fun s wr => ∃ (k : Nat) (M : Mem), s = .int .i64 (k : Int) ∧ (k = 0 ∨ ((k : Int) ≤ most ∧ (k : Int) < v)) ∧ MemAt wr b (own' O W1 wr) M ∧ But (fun j => O j ∨ j = fb) W1 wr ∧ (wr.cell? ⟨fb, 7, none⟩ = some (.int .i64 (k : Int)) ∧ wr.cell? ⟨fb, 2, none⟩ = some (.int .i64 v) ∧ wr.frozen? ⟨fb, 7, none⟩ = false) ∧ (M.cell 0).n = (k : Int) ∧ M.clock = k) (fun s _ => (most - intOf s).toNat)
  case atStart => exact ⟨0, Mem.empty, rfl, .inl rfl, hM1.own (fun k e => .inl e) (own'_lt (fun k e => hM1.lt k e) (Nat.le_refl _)), But.refl _ _, f7, rfl, rfl⟩
  case round =>
    obtain ⟨k, M, rfl, hk, hM, hB, ⟨hc7, hc2, hz7⟩, hn, hck⟩ := hrel
    obtain ⟨hfb, hab, hz1⟩ := hLt.out
    have hOab : ¬ (O ab ∨ ab = fb) := by rintro (e | e); have := hOf _ e; omega; omega
    have hfl : fb < W1.heap.size := by omega
    have hal : ab < W1.heap.size := by omega
    have hsz := hB.size
    have hk50 : (k : Int) ≤ 63 := by rcases hk with hk | hk <;> omega
    by_cases hlt : (k : Int) < most
    · have hOfb : ¬ own' O W1 wr fb := by
        rintro (e | e)
        · have := hOf _ e; omega
        · omega
      have hS := hidq (slow_any b fb _ M (k : Int) v (k : Int) wr hM hOfb (by omega) hc7 hc2 hz7 (by omega) (by omega) hn (by omega))
      have hab0 := (hB.cell (p := ⟨ab, 0, none⟩) hal hOab).trans a0.1.1
      have hab1 := (hB.cell (p := ⟨ab, 1, none⟩) hal hOab).trans a0.1.2
      have hab2 := (hB.cell (p := ⟨ab, 2, none⟩) hal hOab).trans a0.2.1
      have hab3 := (hB.cell (p := ⟨ab, 3, none⟩) hal hOab).trans a0.2.2
      have haz0 := (hB.frozen (p := ⟨ab, 0, none⟩) hal hOab).trans a1.1.1
      have haz1 := (hB.frozen (p := ⟨ab, 1, none⟩) hal hOab).trans a1.1.2
      have haz2 := (hB.frozen (p := ⟨ab, 2, none⟩) hal hOab).trans a1.2.1
      have haz3 := (hB.frozen (p := ⟨ab, 3, none⟩) hal hOab).trans a1.2.2
      have hOab2 : ¬ (own' O W1 wr ab ∨ ab = fb) := by
        rintro ((e | e) | e)
        · have := hOf _ e; omega
        · omega
        · omega
      clear hM hc7 hc2 hz7
      go_wp2_with fail
      refine hS.out.mono ?_
      rintro e w2 ⟨rfl, hM2, hB2, hd7, hd2, hdz⟩
      have hsz2 := hB2.size
      have hal2 : ab < wr.heap.size := by omega
      have c0 := (hB2.cell (p := ⟨ab, 0, none⟩) hal2 hOab2).trans hab0
      have c1 := (hB2.cell (p := ⟨ab, 1, none⟩) hal2 hOab2).trans hab1
      have c2 := (hB2.cell (p := ⟨ab, 2, none⟩) hal2 hOab2).trans hab2
      have c3 := (hB2.cell (p := ⟨ab, 3, none⟩) hal2 hOab2).trans hab3
      have y0 := (hB2.frozen (p := ⟨ab, 0, none⟩) hal2 hOab2).trans haz0
      have y1 := (hB2.frozen (p := ⟨ab, 1, none⟩) hal2 hOab2).trans haz1
      have y2 := (hB2.frozen (p := ⟨ab, 2, none⟩) hal2 hOab2).trans haz2
      have y3 := (hB2.frozen (p := ⟨ab, 3, none⟩) hal2 hOab2).trans haz3
      have hal22 : ab < w2.heap.size := by omega
      have hBall : But (fun j => O j ∨ j = fb) W1 w2 := hB.then hB2 (fun j hj e => by
        rcases e with (e | e) | e
        · exact .inl e
        · omega
        · exact .inr e)
      clear hab0 hab1 hab2 hab3 haz0 haz1 haz2 haz3 hS
      by_cases hd : v ≤ (k : Int) + 1
      · have hdd : decide (v ≤ (k : Int) + 1) = true := decide_eq_true hd
        have hmx : max v 1 = (k : Int) + 1 := by rcases hk with hk | hk <;> omega
        have FIN := hidq (fun w4 (h4 : But (fun j => j = ab ∨ j = w2.heap.size) w2 w4) => (show AloneEnd b O v most w (.returned (.tuple #[.agg #[.bool true, .float .f64 0, .int .i64 0, .int .i64 ((k : Int) + 1)], .bool true])) w4 from by
          refine ⟨_, _, hM2.but h4 (fun j hj e => ?_), ?_, .inr ⟨by rw [hmx]; omega, by rw [hmx], by rw [hmx]; rfl⟩⟩
          · have := hM2.lt j hj
            rcases hj with (hj | hj) | hj
            · have := hOf _ hj; omega
            · omega
            · omega
          · refine (((hb1.mono (fun _ _ e => e.elim)).then hBall (fun j hj e => ?_)).then h4 (fun j hj e => by omega))
            rcases e with e | e
            · exact e
            · omega))
        obtain ⟨⟨q0, q1⟩, q2, q3⟩ := four w2 ab (.cells #[.bool true, .float .f64 0, .int .i64 0, .int .i64 ((k : Int) + 1)] 101) (.bool true) (.float .f64 0) (.int .i64 0) (.int .i64 ((k : Int) + 1)) _ _ _ _ c0 c1 c2 c3 hal22
        clear hM2 hB2 hB hBall hmx
        go_wp2
        refine bodyPost_ret (v := .tuple #[.agg #[.bool true, .float .f64 0, .int .i64 0, .int .i64 ((k : Int) + 1)], .bool true]) (by simp [results, Try.results46, go_sem, q0, q1, q2, q3]) rfl (FIN.out _ ?_)
        exact (((((But.refl _ w2).set1 _ _ (.inl rfl) _).set1 _ _ (.inl rfl) _).set1 _ _ (.inl rfl) _).set1 _ _ (.inl rfl) _).alloc _
      · have hdd : decide (v ≤ (k : Int) + 1) = false := decide_eq_false hd
        have FIN := hidq (fun w4 (h4 : But (fun j => j = w2.heap.size) w2 w4) => (show MemAt w4 b (own' O W1 w4) (M.put 0 ((k : Int) + 1) []) ∧ But (fun j => O j ∨ j = fb) W1 w4 ∧ (w4.cell? ⟨fb, 7, none⟩ = some (.int .i64 (((k + 1 : Nat)) : Int)) ∧ w4.cell? ⟨fb, 2, none⟩ = some (.int .i64 v) ∧ w4.frozen? ⟨fb, 7, none⟩ = false) from by
          have hs4 := h4.size
          refine ⟨(hM2.but h4 (fun j hj e => ?_)).own (fun j hj => ?_) (fun j hj => ?_), hBall.then h4 (fun j hj e => by omega), ?_, ?_, ?_⟩
          · have := hM2.lt j hj; omega
          · rcases hj with (hj | hj) | hj
            · exact .inl hj
            · exact .inr ⟨hj.1, by omega⟩
            · exact .inr ⟨by omega, by omega⟩
          · rcases hj with hj | hj
            · have := hOf _ hj; omega
            · exact hj.2
          · rw [h4.cell (p := ⟨fb, 7, none⟩) (by show fb < _; omega) (by show ¬ fb = _; omega), hd7]; exact congrArg (fun z => some (Value.int .i64 z)) (by omega)
          · rw [h4.cell (p := ⟨fb, 2, none⟩) (by show fb < _; omega) (by show ¬ fb = _; omega)]; exact hd2
          · rw [h4.frozen (p := ⟨fb, 7, none⟩) (by show fb < _; omega) (by show ¬ fb = _; omega)]; exact hdz))
        have HCK := hidq hck
        clear hM2 hB2 hB hBall hck hn
        go_wp2
        go_roundw
        case rel =>
          obtain ⟨e1, e2, e3⟩ := FIN.out _ ((But.refl _ w2).alloc _)
          exact ⟨k + 1, _, by go_num, .inr ⟨by omega, by omega⟩, e1, e2, e3, by show (k : Int) + 1 = _; omega, by show M.clock + 1 = _; rw [HCK.out]⟩
        case measure => simp [intOf]; omega
    · have hdl : decide ((k : Int) < most) = false := decide_eq_false hlt
      have hmx : most < max v 1 := by rcases hk with hk | hk <;> omega
      have hmk : max most 0 = (k : Int) := by rcases hk with hk | hk <;> omega
      have c0 := (hB.cell (p := ⟨ab, 0, none⟩) hal hOab).trans a0.1.1
      have c1 := (hB.cell (p := ⟨ab, 1, none⟩) hal hOab).trans a0.1.2
      have c2 := (hB.cell (p := ⟨ab, 2, none⟩) hal hOab).trans a0.2.1
      have c3 := (hB.cell (p := ⟨ab, 3, none⟩) hal hOab).trans a0.2.2
      have y0 := (hB.frozen (p := ⟨ab, 0, none⟩) hal hOab).trans a1.1.1
      have y1 := (hB.frozen (p := ⟨ab, 1, none⟩) hal hOab).trans a1.1.2
      have y2 := (hB.frozen (p := ⟨ab, 2, none⟩) hal hOab).trans a1.2.1
      have y3 := (hB.frozen (p := ⟨ab, 3, none⟩) hal hOab).trans a1.2.2
      have hal2 : ab < wr.heap.size := by omega
      have FIN := hidq (fun w4 (h4 : But (fun j => j = ab) wr w4) => (show AloneEnd b O v most w (.returned (.tuple #[.agg #[.bool false, .float .f64 0, .int .i64 0, .int .i64 0], .bool false])) w4 from by
          refine ⟨_, M, hM.but h4 (fun j hj e => ?_), ?_, .inl ⟨hmx, rfl, by rw [hmk]; exact hn⟩⟩
          · rcases hj with hj | hj
            · have := hOf _ hj; omega
            · omega
          · refine (((hb1.mono (fun _ _ e => e.elim)).then hB (fun j hj e => ?_)).then h4 (fun j hj e => by omega))
            rcases e with e | e
            · exact e
            · omega))
      clear hM hB hn hck hc7 hc2 hz7 hmx hmk
      go_wp2
      refine bodyPost_ret (v := .tuple #[.agg #[.bool false, .float .f64 0, .int .i64 0, .int .i64 0], .bool false]) (by simp [results, Try.results46, go_sem, c0, c1, c2, c3]) rfl (FIN.out _ ?_)
      exact ((((But.refl (fun j => j = ab) wr).set1 _ _ rfl _).set1 _ _ rfl _).set1 _ _ rfl _).set1 _ _ rfl _
end Go.Proofs.Ytogacknpkoiokaa
