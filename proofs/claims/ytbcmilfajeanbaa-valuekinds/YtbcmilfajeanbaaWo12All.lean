/-
  Layer 12: where an item is; without it: contracts.
  Layer 12: a value without an item: contracts.
-/
import Derived.Test.YtbcmilfajeanbaaDel12All
import Derived.Test.YtbcmilfajeanbaaBoxGAll
namespace Go.Proofs.Ytbcmilfajeanbaa
open Go.RowKit Go.Sort

/-- Where an item that is the same is first; -1: nowhere. -/
def idxK : List KI → KI → Int
  | [], _ => -1
  | y :: L, x => if eqK y x = true then 0 else if idxK L x < 0 then -1 else idxK L x + 1
theorem idxK_no {L : List KI} {x : KI} (h : ∀ i (hi : i < L.length), eqK L[i] x = false) : idxK L x = -1 := by
  induction L with
  | nil => rfl
  | cons y L ih =>
    have h0 := h 0 (by simp)
    have h1 := ih (fun i hi => by have := h (i + 1) (by simpa using hi); simpa using this)
    show (if eqK y x = true then (0 : Int) else if idxK L x < 0 then -1 else idxK L x + 1) = -1
    rw [if_neg (by have h0' : eqK y x = false := h0; rw [h0']; decide), h1]
    rfl
theorem idxK_at {L : List KI} {x : KI} : ∀ {i : Nat} (hi : i < L.length), (∀ j (hj : j < i), eqK (L[j]'(by omega)) x = false) → eqK L[i] x = true → idxK L x = (i : Int) := by
  induction L with
  | nil => intro i hi; simp at hi
  | cons y L ih =>
    intro i hi hno hy
    cases i with
    | zero =>
      have hy' : eqK y x = true := hy
      show (if eqK y x = true then (0 : Int) else _) = _
      rw [if_pos hy']; rfl
    | succ i =>
      have h0 : eqK y x = false := hno 0 (by omega)
      have h1 := ih (i := i) (by simpa using hi) (fun j hj => by have := hno (j + 1) (by omega); simpa using this) (by simpa using hy)
      show (if eqK y x = true then (0 : Int) else if idxK L x < 0 then -1 else idxK L x + 1) = _
      rw [if_neg (by rw [h0]; decide), h1, if_neg (by omega)]
      omega

theorem wo1_any (y x : KI) (xb : Nat) (w : World) (hx : BoxAt w xb [.float .f64 x.b, .int .i64 x.v]) : Calls Try.prog 76 #[.agg #[.float .f64 y.b, .int .i64 y.v], .pointer (some ⟨xb, 0, none⟩)] w fun e w' => e = .returned (.bool (eqK y x)) ∧ Below w.heap.size w w' := by
  have hC := hidq (fun w => icmp_any y.b x.b y.v x.v w y.ok.1 x.ok.1)
  have x0 := (hx.get 0 _ rfl).1
  have x1 := (hx.get 1 _ rfl).1
  have xl := hx.lt
  cases he : eqK y x
  · have hb : (cmpN y.b y.v x.b x.v == 0) = false := by unfold eqK at he; simpa using he
    generalize cmpN y.b y.v x.b x.v = c at *
    clear he hx
    go_enter Try.func76, Try.ntmps76
    go_wp2_with (go_at_call 43; refine (hC.out _).mono ?_; rintro e w1 ⟨rfl, hw⟩; replace hw := hw.symm; subst hw)
    go_ret
    exact ⟨rfl, (((Below.refl _ _).alloc (Nat.le_refl _) _).alloc (by simp) _).alloc (by simp; omega) _⟩
  · have hb : cmpN y.b y.v x.b x.v = 0 := by unfold eqK at he; simpa using he
    rw [hb] at hC
    clear he hb hx
    go_enter Try.func76, Try.ntmps76
    go_wp2_with (go_at_call 43; refine (hC.out _).mono ?_; rintro e w1 ⟨rfl, hw⟩; replace hw := hw.symm; subst hw)
    go_ret
    exact ⟨rfl, (((Below.refl _ _).alloc (Nat.le_refl _) _).alloc (by simp) _).alloc (by simp; omega) _⟩

set_option maxRecDepth 20000 in
set_option maxHeartbeats 2000000 in
theorem indexFunc_any (a : Option Addr) (cap n : Nat) (L : List KI) (x : KI) (xb : Nat) (w : World) (hL : L.length = n) (h : SlAt 2 w a cap n (flatI (kts L))) (hx : BoxAt w xb [.float .f64 x.b, .int .i64 x.v]) (hn : n ≤ 1000000) :
    Calls Try.prog 75 #[.slice a n cap, .func (.func 76) #[] #[.pointer (some ⟨xb, 0, none⟩)]] w fun e w' => e = .returned (.int .i64 (idxK L x)) ∧ Below w.heap.size w w' := by
  have hsf := run_store_float (P := Try.prog)
  have HH := hidq (And.intro h (And.intro hx hL))
  clear h hx hL
  go_enter Try.func75, Try.ntmps75
  go_wp2
  go_loopw [8] (fun c wr => ∃ (k : Nat), c = .int .i64 (k : Int) ∧ k ≤ n ∧ Below w.heap.size w wr ∧ ∀ j, j < k → eqK L[j]! x = false) (fun c _ => n - (intOf c).toNat)
  case atStart => exact ⟨0, rfl, Nat.zero_le _, Below.refl _ _, fun j hj => absurd hj (Nat.not_lt_zero _)⟩
  case round =>
    obtain ⟨k, rfl, hk, hB, hall⟩ := hrel
    by_cases hlt : k < n
    · obtain ⟨g1, rfl, hl1, e0, e1⟩ := HH.out.1.item HH.out.2.2 hlt
      have e0' := (hB.cell (p := ⟨g1, k * 2, none⟩) hl1).trans e0
      have e1' := (hB.cell (p := ⟨g1, k * 2 + 1, none⟩) hl1).trans e1
      have k1 : (k : Int) < (n : Int) := by omega
      have hS := hidq (fun W (hW : Below wr.heap.size wr W) => wo1_any L[k]! x xb W ((HH.out.2.1.below hB).below hW))
      have hg1 : g1 < wr.heap.size := by have := hB.size; omega
      have hcp := HH.out.1.le
      cases hq : eqK L[k]! x
      · have hnx : ∀ j, j < k + 1 → eqK L[j]! x = false := fun j hj => by
          rcases Nat.lt_succ_iff_lt_or_eq.1 hj with h | h
          · exact hall j h
          · rw [h]; exact hq
        have HX := hidq hnx
        rw [hq] at hS
        have HB := hidq hB
        clear hall hq hnx e0 e1 hB
        generalize L[k]! = y at *
        go_wp2_with fail
        refine (hS.out _ (Below.refl _ _)).mono ?_
        rintro e w3 ⟨rfl, hb3⟩
        have HC := hidq hb3
        clear hb3
        go_wp2
        refine ⟨⟨k + 1, by first | rfl | (congr 1; omega), by omega, HB.out.trans (HC.out.mono HB.out.size), HX.out⟩, by simp [intOf]; omega⟩
      · have hr : idxK L x = (k : Int) := by
          refine idxK_at (by have := HH.out.2.2; omega) (fun j hj => ?_) ?_
          · have := hall j hj
            rw [getElem!_pos L j (by have := HH.out.2.2; omega)] at this
            exact this
          · rw [getElem!_pos L k (by have := HH.out.2.2; omega)] at hq
            exact hq
        have HR := hidq hr
        rw [hq] at hS
        have HB := hidq hB
        clear hall hq e0 e1 hB hr
        generalize L[k]! = y at *
        go_wp2_with fail
        refine (hS.out _ (Below.refl _ _)).mono ?_
        rintro e w3 ⟨rfl, hb3⟩
        have HC := hidq hb3
        clear hb3
        go_wp2
        go_ret
        exact ⟨by rw [HR.out]; rfl, HB.out.trans (HC.out.mono HB.out.size)⟩
    · have hr : idxK L x = -1 := idxK_no (fun i hi => by
        have := hall i (by have := HH.out.2.2; omega)
        rw [getElem!_pos L i hi] at this
        exact this)
      have HR := hidq hr
      have hd : decide ((k : Int) < (n : Int)) = false := decide_eq_false (by omega)
      have HB := hidq hB
      clear hall hB hr
      go_wp2
      go_ret
      exact ⟨by rw [HR.out]; rfl, HB.out⟩
end Go.Proofs.Ytbcmilfajeanbaa

namespace Go.Proofs.Ytbcmilfajeanbaa
open Go.RowKit Go.Sort

theorem kts_erase (L : List KI) (i : Nat) : kts (L.eraseIdx i) = (kts L).eraseIdx i := by unfold kts; simp only [List.eraseIdx_eq_take_drop_succ, List.map_append, List.map_take, List.map_drop]
theorem flat_below {k g cap n : Nat} {l : List Value} {w w' : World} (h : Flat k w g cap n l) (hb : Below w.heap.size w w') : Flat k w' g cap n l := h.but (S := fun _ => False) (But.of_below hb) id
theorem three_at {w : World} {b : Nat} {x y z : Value} (h : BoxAt w b [x, y, z]) : (w.cell? ⟨b, 0, none⟩ = some x ∧ w.frozen? ⟨b, 0, none⟩ = false) ∧ (w.cell? ⟨b, 1, none⟩ = some y ∧ w.frozen? ⟨b, 1, none⟩ = false) ∧ (w.cell? ⟨b, 2, none⟩ = some z ∧ w.frozen? ⟨b, 2, none⟩ = false) := ⟨h.get 0 _ rfl, h.get 1 _ rfl, h.get 2 _ rfl⟩
theorem three_new (w : World) (l1 l2 l3 : List Value) (t1 t2 t3 : TypeId) : ∃ W, ((w.alloc (.cells l1.toArray t1)).alloc (.cells l2.toArray t2)).alloc (.cells l3.toArray t3) = W ∧ Below w.heap.size w W ∧ W.heap.size = w.heap.size + 3 ∧ BoxAt W w.heap.size l1 ∧ BoxAt W (w.heap.size + 1) l2 ∧ BoxAt W (w.heap.size + 2) l3 := by
  have a1 := (Below.refl w.heap.size w).alloc (Nat.le_refl _) (.cells l1.toArray t1)
  have a2 := (Below.refl (w.alloc (.cells l1.toArray t1)).heap.size (w.alloc (.cells l1.toArray t1))).alloc (Nat.le_refl _) (.cells l2.toArray t2)
  have a3 := (Below.refl ((w.alloc (.cells l1.toArray t1)).alloc (.cells l2.toArray t2)).heap.size ((w.alloc (.cells l1.toArray t1)).alloc (.cells l2.toArray t2))).alloc (Nat.le_refl _) (.cells l3.toArray t3)
  refine ⟨_, rfl, (a1.trans (a2.mono a1.size)).trans (a3.mono (by simp; omega)), by simp, ((BoxAt.new w l1 t1).below a2).below a3, ?_, ?_⟩
  · have := (BoxAt.new (w.alloc (.cells l1.toArray t1)) l2 t2).below a3
    rw [World.size_alloc] at this
    exact this
  · have := BoxAt.new ((w.alloc (.cells l1.toArray t1)).alloc (.cells l2.toArray t2)) l3 t3
    rw [World.size_alloc, World.size_alloc] at this
    exact this

set_option maxRecDepth 20000 in
set_option maxHeartbeats 4000000 in
theorem wo_yes (kd N p : Int) (g cap n i : Nat) (L : List KI) (x : KI) (w : World) (h : Flat 2 w g cap n (flatI (kts L))) (hL : L.length = n) (hi : idxK L x = (i : Int)) (hin : i < n) (hp : (i : Int) < p) (hn : n ≤ 1000000) :
    Calls Try.prog 40 #[.agg #[.int .i64 kd, .slice (some ⟨g, 0, none⟩) n cap, .int .i64 N], .agg #[.float .f64 x.b, .int .i64 x.v], .int .i64 p] w fun e w' =>
      e = .returned (.tuple #[.agg #[.int .i64 kd, .slice (some ⟨g, 0, none⟩) (n - 1) cap, .int .i64 N], .bool true]) ∧ Flat 2 w' g cap (n - 1) (flatI (kts (L.eraseIdx i))) ∧ But (fun j => j = g) w w' := by
  have hsf := run_store_float (P := Try.prog)
  obtain ⟨W1, hW1, hb1, hs1, hX3, hX4, hX6⟩ := three_new w [.int .i64 kd, .slice (some ⟨g, 0, none⟩) n cap, .int .i64 N] [.float .f64 x.b, .int .i64 x.v] [.int .i64 0, .slice none 0 0, .int .i64 0] 28 39 28
  obtain ⟨b3, hb3⟩ : ∃ b3, w.heap.size = b3 := ⟨_, rfl⟩
  rw [hb3] at hX3 hX4 hX6 hs1
  have hgl := h.lt
  have hF1 := flat_below h hb1
  have hIx := indexFunc_any (some ⟨g, 0, none⟩) cap n L x (b3 + 1) W1 hL (.inr ⟨g, rfl, hF1⟩) hX4 hn
  rw [hi] at hIx
  have H1 := hidq (show Below w.heap.size w W1 ∧ BoxAt W1 b3 [.int .i64 kd, .slice (some ⟨g, 0, none⟩) n cap, .int .i64 N] ∧ BoxAt W1 (b3 + 2) [.int .i64 0, .slice none 0 0, .int .i64 0] ∧ Flat 2 W1 g cap n (flatI (kts L)) ∧ W1.heap.size = b3 + 3 ∧ g < b3 ∧ w.heap.size = b3 from ⟨hb1, hX3, hX6, hF1, hs1, by omega, hb3⟩)
  obtain ⟨⟨x0, y0⟩, ⟨x1, y1⟩, ⟨x2, y2⟩⟩ := three_at hX3
  have hxl := hX3.lt
  have hi0 : ¬ (i : Int) < 0 := by omega
  have hp1 : ¬ p ≤ (i : Int) := by omega
  have HD := hidq (fun W (hW : Below W1.heap.size W1 W) => delete_any g cap n i (kts L) W (flat_below hF1 hW) (by rw [kts_length, hL]) hin hn)
  rw [← kts_erase, show ((i + 1 : Nat) : Int) = (i : Int) + 1 by omega] at HD
  have hadd : wrap64 ((i : Int) + 1) = (i : Int) + 1 := by unfold wrap64; omega
  clear h hX3 hX4 hX6 hb1 hF1 hs1 hL hi hin hp hn hgl
  go_enter Try.func40, Try.ntmps40
  go_wp2_with fail
  try rw [hb3]
  try rw [hW1]
  clear hW1 hb3
  refine hIx.mono ?_
  rintro e w2 ⟨rfl, hb2⟩
  have x0' := (hb2.cell (p := ⟨b3, 0, none⟩) hxl).trans x0
  have x1' := (hb2.cell (p := ⟨b3, 1, none⟩) hxl).trans x1
  have x2' := (hb2.cell (p := ⟨b3, 2, none⟩) hxl).trans x2
  have hxl2 : b3 < w2.heap.size := Nat.lt_of_lt_of_le hxl hb2.size
  have HB2 := hidq hb2
  clear hIx hb2 x0 x1 x2
  go_wp2_with fail
  refine (HD w2 HB2.out).mono ?_
  rintro e w3 ⟨rfl, hF3, hbt⟩
  obtain ⟨q1, q2, q3, q4, q5, q6, q7⟩ := H1.out
  have hX3 := (q2.below HB2.out).but hbt (fun e => by have e' : b3 = g := e; omega)
  have hX6 := (q3.below HB2.out).but hbt (fun e => by have e' : b3 + 2 = g := e; omega)
  obtain ⟨⟨x0, y0⟩, ⟨x1, y1⟩, ⟨x2, y2⟩⟩ := three_at hX3
  obtain ⟨⟨r0, z0⟩, ⟨r1, z1⟩, ⟨r2, z2⟩⟩ := three_at hX6
  have hx3 := hX3.lt
  have hx6 := hX6.lt
  have HE := hidq (show Flat 2 w3 g cap (n - 1) (flatI (kts (L.eraseIdx i))) ∧ But (fun j => j = g) w w3 ∧ g < b3 ∧ w.heap.size = b3 from ⟨hF3, (But.of_below (q1.trans (HB2.out.mono q1.size))).trans hbt, q6, q7⟩)
  clear HD hF3 hbt hX3 hX6 q1 q2 q3 q4 q5 q6 q7 H1 HB2 x0' x1' x2' hxl2
  go_wp2_with fail
  refine bodyPost_ret (v := .tuple #[.agg #[.int .i64 kd, .slice (some ⟨g, 0, none⟩) (n - 1) cap, .int .i64 N], .bool true]) (by simp [results, Try.results40, go_sem, r0, r1, r2]) rfl ?_
  obtain ⟨hF, hB, hg, hw⟩ := HE.out
  have hS : But (fun j => j = b3 ∨ j = b3 + 2) w3 ((((w3.setCell ⟨b3, 1, none⟩ (.slice (some ⟨g, 0, none⟩) (n - 1) cap)).setCell ⟨b3 + 2, 0, none⟩ (.int .i64 kd)).setCell ⟨b3 + 2, 1, none⟩ (.slice (some ⟨g, 0, none⟩) (n - 1) cap)).setCell ⟨b3 + 2, 2, none⟩ (.int .i64 N)) :=
    ((((But.refl (fun j => j = b3 ∨ j = b3 + 2) w3).set1 b3 1 (.inl rfl) _).set1 (b3 + 2) 0 (.inr rfl) _).set1 (b3 + 2) 1 (.inr rfl) _).set1 (b3 + 2) 2 (.inr rfl) _
  exact ⟨rfl, hF.but hS (fun e => by rcases e with e | e <;> omega), hB.then (hS.mono (T := fun j => b3 ≤ j) (fun k _ e => by rcases e with e | e <;> omega)) (fun k hk e => by have e' : b3 ≤ k := e; omega)⟩
end Go.Proofs.Ytbcmilfajeanbaa
