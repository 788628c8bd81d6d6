/-
  Layer 5: are two values the same? The program's, the document's: contracts.
-/
import Derived.Test.YtogacknpkoiokaaIs5
namespace Go.Proofs.Ytogacknpkoiokaa
open Go.RowKit Go.Sort

def eqK (x y : KI) : Bool := decide (cmpN x.b x.v y.b y.v = 0)
def sameK (L M : List KI) : Bool := decide (L.length = M.length ∧ ∀ k, k < L.length → eqK L[k]! M[k]! = true)
theorem eqK_self (x : KI) : eqK x x = true := by
  unfold eqK; rw [decide_eq_true_eq, cmpN_same (by rw [cmpI_zero]), cmpI_zero]
theorem sameK_self (L : List KI) : sameK L L = true := decide_eq_true ⟨rfl, fun _ _ => eqK_self _⟩

theorem same1_any (x y : KI) (w : World) : Calls Try.prog 66 #[.agg #[.float .f64 x.b, .int .i64 x.v], .agg #[.float .f64 y.b, .int .i64 y.v]] w fun e w' => e = .returned (.bool (eqK x y)) ∧ Below w.heap.size w w' := by
  have hC := hidq (fun w => icmp_any x.b y.b x.v y.v w x.ok.1 y.ok.1)
  cases he : eqK x y
  · have hb : (cmpN x.b x.v y.b y.v == 0) = false := by unfold eqK at he; simpa using he
    generalize cmpN x.b x.v y.b y.v = c at *
    clear he
    go_enter Try.func66, Try.ntmps66
    go_wp2_with (go_at_call 57; refine (hC.out _).mono ?_; rintro e w1 ⟨rfl, hw⟩; replace hw := hw.symm; subst hw)
    go_ret
    exact ⟨rfl, ((((Below.refl _ _).alloc (Nat.le_refl _) _).alloc (by simp) _).alloc (by simp; omega) _).alloc (by simp; omega) _⟩
  · have hb : cmpN x.b x.v y.b y.v = 0 := by unfold eqK at he; simpa using he
    rw [hb] at hC
    clear he hb
    go_enter Try.func66, Try.ntmps66
    go_wp2_with (go_at_call 57; refine (hC.out _).mono ?_; rintro e w1 ⟨rfl, hw⟩; replace hw := hw.symm; subst hw)
    go_ret
    exact ⟨rfl, ((((Below.refl _ _).alloc (Nat.le_refl _) _).alloc (by simp) _).alloc (by simp; omega) _).alloc (by simp; omega) _⟩

theorem SlAt.item {w : World} {a : Option Addr} {cap n : Nat} {L : List KI} (h : SlAt 2 w a cap n (flatI (kts L))) (hL : L.length = n) {k : Nat} (hk : k < n) : ∃ g, a = some ⟨g, 0, none⟩ ∧ g < w.heap.size ∧ w.cell? ⟨g, k * 2, none⟩ = some (.float .f64 L[k]!.b) ∧ w.cell? ⟨g, k * 2 + 1, none⟩ = some (.int .i64 L[k]!.v) := by
  have hkl : k < L.length := by omega
  have hk2 : k < (kts L).length := by rw [kts_length]; exact hkl
  obtain ⟨g, rfl, hl, e0⟩ := h.cell (flatI_get (kts L) k hk2).1
  obtain ⟨g', q, _, e1⟩ := h.cell (flatI_get (kts L) k hk2).2
  cases q
  have hx : (kts L)[k] = (L[k]!.b, L[k]!.v) := by rw [getElem!_pos L k hkl]; simp [kts, kt]
  rw [hx] at e0 e1
  exact ⟨g, rfl, hl, e0, e1⟩
theorem SlAt.itemR {w : World} {a : Option Addr} {cap n : Nat} {L : List KI} (h : SlAt 2 w a cap n (flatR L)) (hL : L.length = n) {k : Nat} (hk : k < n) : ∃ g, a = some ⟨g, 0, none⟩ ∧ g < w.heap.size ∧ w.cell? ⟨g, k * 2, none⟩ = some (.int .u64 (ni L[k]!.b)) ∧ w.cell? ⟨g, k * 2 + 1, none⟩ = some (.int .i64 L[k]!.v) := by
  have hkl : k < L.length := by omega
  obtain ⟨g, rfl, hl, e0⟩ := h.cell (flatR_get L k hkl).1
  obtain ⟨g', q, _, e1⟩ := h.cell (flatR_get L k hkl).2
  cases q
  rw [← getElem!_pos L k hkl] at e0 e1
  exact ⟨g, rfl, hl, e0, e1⟩

set_option maxHeartbeats 2000000 in
theorem equalFunc_any (a1 a2 : Option Addr) (c1 c2 n1 n2 : Nat) (L M : List KI) (w : World) (hL : L.length = n1) (hM : M.length = n2) (h1 : SlAt 2 w a1 c1 n1 (flatI (kts L))) (h2 : SlAt 2 w a2 c2 n2 (flatI (kts M))) (hn : n1 ≤ 1000000) :
    Calls Try.prog 65 #[.slice a1 n1 c1, .slice a2 n2 c2, .func (.func 66) #[] #[]] w fun e w' => e = .returned (.bool (sameK L M)) ∧ Below w.heap.size w w' := by
  have hsf := run_store_float (P := Try.prog)
  by_cases hnn : n1 = n2
  · subst hnn
    have hn1 : (n1 : Int) ≤ 1000000 := by omega
    have hle1 := h1.le
    have hle2 := h2.le
    go_enter Try.func65, Try.ntmps65
    have HL := hidq hL
    have HM := hidq hM
    clear hL hM
    go_wp2
    go_loopw [17] (fun c wr => ∃ (k : Nat), c = .int .i64 (k : Int) ∧ k ≤ n1 ∧ Below w.heap.size w wr ∧ ∀ j, j < k → eqK L[j]! M[j]! = true) (fun c _ => n1 - (intOf c).toNat)
    case atStart => exact ⟨0, rfl, Nat.zero_le _, Below.refl _ _, fun j hj => absurd hj (Nat.not_lt_zero _)⟩
    case round =>
      obtain ⟨k, rfl, hk, hB, hall⟩ := hrel
      by_cases hlt : k < n1
      · obtain ⟨g1, rfl, hl1, e0, e1⟩ := h1.item HL.out hlt
        obtain ⟨g2, rfl, hl2, f0, f1⟩ := h2.item HM.out hlt
        have e0' := (hB.cell (p := ⟨g1, k * 2, none⟩) hl1).trans e0
        have e1' := (hB.cell (p := ⟨g1, k * 2 + 1, none⟩) hl1).trans e1
        have f0' := (hB.cell (p := ⟨g2, k * 2, none⟩) hl2).trans f0
        have f1' := (hB.cell (p := ⟨g2, k * 2 + 1, none⟩) hl2).trans f1
        have k1 : (k : Int) < (n1 : Int) := by omega
        have hS := hidq (fun w => same1_any L[k]! M[k]! w)
        have hg1 : g1 < wr.heap.size := by have := hB.size; omega
        have hg2 : g2 < wr.heap.size := by have := hB.size; omega
        cases hq : eqK L[k]! M[k]!
        · have hF : sameK L M = false := decide_eq_false (fun e => by have := e.2 k (by have := HL.out; omega); rw [hq] at this; cases this)
          have HF := hidq hF
          rw [hq] at hS
          clear hall hq hF e0 e1 f0 f1
          generalize L[k]! = x at *
          generalize M[k]! = y at *
          go_wp2_with fail
          refine (hS.out _).mono ?_
          rintro e w3 ⟨rfl, hb3⟩
          go_wp2
          go_ret
          refine ⟨by rw [HF.out]; rfl, ?_⟩
          exact (((hB.trans ((Below.refl _ _).alloc hB.size _)).trans ((Below.refl _ _).alloc (by have := hB.size; simp; omega) _))).trans (hb3.mono (by have := hB.size; simp; omega))
        · have hnx : ∀ j, j < k + 1 → eqK L[j]! M[j]! = true := fun j hj => by
            rcases Nat.lt_succ_iff_lt_or_eq.1 hj with h | h
            · exact hall j h
            · rw [h]; exact hq
          have HX := hidq hnx
          rw [hq] at hS
          clear hall hq hnx e0 e1 f0 f1
          generalize L[k]! = x at *
          generalize M[k]! = y at *
          go_wp2_with fail
          refine (hS.out _).mono ?_
          rintro e w3 ⟨rfl, hb3⟩
          go_wp2
          refine ⟨⟨k + 1, rfl, by omega, ?_, HX.out⟩, by simp [intOf]; omega⟩
          exact (((hB.trans ((Below.refl _ _).alloc hB.size _)).trans ((Below.refl _ _).alloc (by have := hB.size; simp; omega) _))).trans (hb3.mono (by have := hB.size; simp; omega))
      · have hkn : k = n1 := by omega
        have hT : sameK L M = true := decide_eq_true ⟨HL.out.trans HM.out.symm, fun j hj => hall j (by have := HL.out; omega)⟩
        have HT := hidq hT
        have hd : decide ((k : Int) < (n1 : Int)) = false := decide_eq_false (by omega)
        clear hT hall hkn
        go_wp2
        go_ret
        exact ⟨by rw [HT.out]; rfl, hB⟩
  · have hF : sameK L M = false := decide_eq_false (fun e => hnn (by omega))
    rw [hF]
    have hb : ((n1 : Int) != (n2 : Int)) = true := by simp; omega
    clear h1 h2 hF hL hM
    go_enter Try.func65, Try.ntmps65
    go_wp2
    go_ret
    exact ⟨rfl, Below.refl _ _⟩

/-- Two values. -/
def sameV (x y : Int) (L M : List KI) : Bool := decide (x = y) && sameK L M
theorem vsame_any (x y : Int) (a1 a2 : Option Addr) (c1 c2 n1 n2 : Nat) (L M : List KI) (w : World) (hL : L.length = n1) (hM : M.length = n2) (h1 : SlAt 2 w a1 c1 n1 (flatI (kts L))) (h2 : SlAt 2 w a2 c2 n2 (flatI (kts M))) (hn : n1 ≤ 1000000) :
    Calls Try.prog 35 #[.agg #[.int .i64 x, .slice a1 n1 c1], .agg #[.int .i64 y, .slice a2 n2 c2]] w fun e w' => e = .returned (.bool (sameV x y L M)) ∧ Below w.heap.size w w' := by
  have hb : But (fun _ => False) w ((w.alloc (boxV x (.slice a1 n1 c1))).alloc (boxV y (.slice a2 n2 c2))) := ((But.refl _ _).alloc _).alloc _
  by_cases hxy : x = y
  · subst hxy
    have hv : sameV x x L M = sameK L M := by unfold sameV; simp
    rw [hv]
    have hE := hidq (equalFunc_any a1 a2 c1 c2 n1 n2 L M _ hL hM (h1.but hb (fun _ _ e => e)) (h2.but hb (fun _ _ e => e)) hn)
    generalize sameK L M = s at *
    clear h1 h2 hL hM hb hv
    go_enter Try.func35, Try.ntmps35
    go_wp2_with fail
    refine hE.out.mono ?_
    rintro e w1 ⟨rfl, hb1⟩
    go_wp2
    go_ret
    exact ⟨rfl, (((Below.refl _ _).alloc (Nat.le_refl _) _).alloc (by simp) _).trans (hb1.mono (by simp; omega))⟩
  · have hv : sameV x y L M = false := by unfold sameV; simp [hxy]
    rw [hv]
    have hbx : (x == y) = false := by simpa using hxy
    clear h1 h2 hL hM hb hv hxy
    go_enter Try.func35, Try.ntmps35
    go_wp2
    go_ret
    exact ⟨rfl, ((Below.refl _ _).alloc (Nat.le_refl _) _).alloc (by simp) _⟩

def sameR (s : Bool) : Int := if s = true then 0 else -1
theorem nf_ni' (n : Nat) : nf (ni n) = n := rfl
set_option maxHeartbeats 2000000 in
theorem rsame_any (x y : Int) (a1 a2 : Option Addr) (c1 c2 n1 n2 : Nat) (L M : List KI) (w : World) (hL : L.length = n1) (hM : M.length = n2) (h1 : SlAt 2 w a1 c1 n1 (flatR L)) (h2 : SlAt 2 w a2 c2 n2 (flatR M)) (hn : n1 ≤ 1000000) :
    Calls Try.prog 39 #[.agg #[.int .i64 x, .slice a1 n1 c1], .agg #[.int .i64 y, .slice a2 n2 c2]] w fun e w' => e = .returned (.int .i64 (sameR (sameV x y L M))) ∧ Below w.heap.size w w' := by
  have hb0 : Below w.heap.size w ((w.alloc (boxR x (.slice a1 n1 c1))).alloc (boxR y (.slice a2 n2 c2))) := ((Below.refl _ _).alloc (Nat.le_refl _) _).alloc (by simp) _
  by_cases hxy : x = y
  · subst hxy
    have hv : sameV x x L M = sameK L M := by unfold sameV; simp
    rw [hv]
    by_cases hnn : n1 = n2
    · subst hnn
      have hn1 : (n1 : Int) ≤ 1000000 := by omega
      have hle1 := h1.le
      have hle2 := h2.le
      have HL := hidq hL
      have HM := hidq hM
      clear hL hM hv
      go_enter Try.func39, Try.ntmps39
      go_wp2_with fail
      obtain ⟨W1, hW1⟩ : ∃ W1, (w.alloc (boxR x (.slice a1 n1 c1))).alloc (boxR x (.slice a2 n1 c2)) = W1 := ⟨_, rfl⟩
      have hbx : W1.cell? ⟨w.heap.size, 1, none⟩ = some (.slice a1 n1 c1) ∧ W1.cell? ⟨w.heap.size + 1, 1, none⟩ = some (.slice a2 n1 c2) := by
        have s1 : (w.alloc (boxR x (.slice a1 n1 c1))).heap.size = w.heap.size + 1 := World.size_alloc _ _
        have b1 : But (fun _ => False) (w.alloc (boxR x (.slice a1 n1 c1))) W1 := by rw [← hW1]; exact (But.refl _ _).alloc _
        refine ⟨?_, ?_⟩
        · rw [b1.cell (p := ⟨w.heap.size, 1, none⟩) (by rw [s1]; exact Nat.lt_succ_self _) id]; exact (World.cell?_alloc_new _ _ _ 1).trans rfl
        · rw [← hW1, ← s1]; exact (World.cell?_alloc_new _ _ _ 1).trans rfl
      have hz : W1.heap.size = w.heap.size + 2 := by rw [← hW1]; simp
      rw [hW1] at hb0
      try rw [hW1]
      clear hW1
      go_loopw [23] (fun c wr => ∃ (k : Nat), c = .int .i64 (k : Int) ∧ k ≤ n1 ∧ Below W1.heap.size W1 wr ∧ ∀ j, j < k → eqK L[j]! M[j]! = true) (fun c _ => n1 - (intOf c).toNat)
      case atStart => exact ⟨0, rfl, Nat.zero_le _, Below.refl _ _, fun j hj => absurd hj (Nat.not_lt_zero _)⟩
      case round =>
        obtain ⟨k, rfl, hk, hB, hall⟩ := hrel
        have hBw : Below w.heap.size w wr := hb0.trans (hB.mono hb0.size)
        have y0 := (hB.cell (p := ⟨w.heap.size, 1, none⟩) (by show w.heap.size < _; omega)).trans hbx.1
        have y1 := (hB.cell (p := ⟨w.heap.size + 1, 1, none⟩) (by show w.heap.size + 1 < _; omega)).trans hbx.2
        by_cases hlt : k < n1
        · obtain ⟨g1, rfl, hl1, e0, e1⟩ := h1.itemR HL.out hlt
          obtain ⟨g2, rfl, hl2, f0, f1⟩ := h2.itemR HM.out hlt
          have e0' := (hBw.cell (p := ⟨g1, k * 2, none⟩) hl1).trans e0
          have e1' := (hBw.cell (p := ⟨g1, k * 2 + 1, none⟩) hl1).trans e1
          have f0' := (hBw.cell (p := ⟨g2, k * 2, none⟩) hl2).trans f0
          have f1' := (hBw.cell (p := ⟨g2, k * 2 + 1, none⟩) hl2).trans f1
          have k1 : (k : Int) < (n1 : Int) := by omega
          have r1 := ni_rng L[k]!.ok.1
          have r2 := ni_rng M[k]!.ok.1
          have hS := hidq (fun w => rcmp4_any (ni L[k]!.b) L[k]!.v (ni M[k]!.b) M[k]!.v w r1.1 r1.2 r2.1 r2.2)
          rw [nf_ni', nf_ni'] at hS
          have FC := hidq (fun W (hW : But (fun _ => False) wr W) => (show W.cell? ⟨w.heap.size, 1, none⟩ = some (.slice (some ⟨g1, 0, none⟩) n1 c1) ∧ W.cell? ⟨w.heap.size + 1, 1, none⟩ = some (.slice (some ⟨g2, 0, none⟩) n1 c2) from
            ⟨(hW.cell (p := ⟨w.heap.size, 1, none⟩) (by show w.heap.size < _; have := hB.size; omega) id).trans y0, (hW.cell (p := ⟨w.heap.size + 1, 1, none⟩) (by show w.heap.size + 1 < _; have := hB.size; omega) id).trans y1⟩))
          obtain ⟨c, hc⟩ : ∃ c, cmpN L[k]!.b L[k]!.v M[k]!.b M[k]!.v = c := ⟨_, rfl⟩
          have hq : eqK L[k]! M[k]! = decide (c = 0) := by unfold eqK; rw [hc]
          rw [hc] at hS
          have HZ := hidq hz
          by_cases h0 : c = 0
          · have hnx : ∀ j, j < k + 1 → eqK L[j]! M[j]! = true := fun j hj => by
              rcases Nat.lt_succ_iff_lt_or_eq.1 hj with h | h
              · exact hall j h
              · rw [h, hq]; exact decide_eq_true h0
            have HX := hidq hnx
            subst h0
            clear hall hnx e0 e1 f0 f1 hq hc r1 r2 hz
            generalize L[k]! = p at *
            generalize M[k]! = q at *
            go_wp2
            go_region_with (go_at_call 49; refine (hS.out _).mono ?_; rintro e w3 ⟨rfl, hb3⟩)
            all_goals go_wp2
            all_goals exact ⟨⟨k + 1, rfl, by omega, hB.trans ((((But.refl (fun _ => False) wr).drew).trans (But.of_below hb3)).below hB.size (fun _ e => e.elim)), HX.out⟩, by simp [intOf]; omega⟩
          · have hF : sameK L M = false := decide_eq_false (fun e => by have := e.2 k (by have := HL.out; omega); rw [hq] at this; simp [h0] at this)
            have HF := hidq hF
            have hcb : (c != 0) = true := by simpa using h0
            clear hall hF e0 e1 f0 f1 hq hc r1 r2 hz h0
            generalize L[k]! = p at *
            generalize M[k]! = q at *
            go_wp2
            go_region_with (go_at_call 49; refine (hS.out _).mono ?_; rintro e w3 ⟨rfl, hb3⟩)
            all_goals go_wp2
            all_goals go_ret
            all_goals exact ⟨by rw [HF.out]; rfl, hBw.trans ((((But.refl (fun _ => False) wr).drew).trans (But.of_below hb3)).below hBw.size (fun _ e => e.elim))⟩
        · have hkn : k = n1 := by omega
          have hT : sameK L M = true := decide_eq_true ⟨HL.out.trans HM.out.symm, fun j hj => hall j (by have := HL.out; omega)⟩
          have HT := hidq hT
          have hd : decide ((k : Int) < (n1 : Int)) = false := decide_eq_false (by omega)
          clear hT hall hkn
          go_wp2
          go_ret
          exact ⟨by rw [HT.out]; rfl, hBw⟩
    · have hF : sameK L M = false := decide_eq_false (fun e => hnn (by omega))
      rw [hF]
      have hb : ((n1 : Int) != (n2 : Int)) = true := by simp; omega
      clear h1 h2 hF hL hM hv
      go_enter Try.func39, Try.ntmps39
      go_wp2
      go_ret
      exact ⟨rfl, hb0⟩
  · have hv : sameV x y L M = false := by unfold sameV; simp [hxy]
    rw [hv]
    have hbx : (x != y) = true := by simpa using hxy
    clear h1 h2 hL hM hv hxy
    go_enter Try.func39, Try.ntmps39
    go_wp2
    go_ret
    exact ⟨rfl, hb0⟩
end Go.Proofs.Ytogacknpkoiokaa
