/-
  Layer 5's law: what was read goes its own way: the call returns true.
-/
import Derived.Test.YtogacknpkoiokaaIs5
import Derived.Test.YtogacknpkoiokaaWrite5
import Derived.Test.YtogacknpkoiokaaMask
namespace Go.Proofs.Ytogacknpkoiokaa
open Go.RowKit Go.Sort

theorem SlAt.there {k cap n : Nat} {a : Option Addr} {l : List Value} {w : World} (h : SlAt k w a cap n l) {t : Nat} (ht : t < n * k) : ∃ g u, a = some ⟨g, 0, none⟩ ∧ g < w.heap.size ∧ w.cell? ⟨g, t, none⟩ = some u ∧ w.frozen? ⟨g, t, none⟩ = false := by
  rcases h with ⟨_, rfl, _, _⟩ | ⟨g, rfl, hf⟩
  · omega
  · have h1 : t < l.length := by rw [hf.len]; exact ht
    have h2 : n * k ≤ cap * k := Nat.mul_le_mul_right _ hf.le
    exact ⟨g, _, rfl, hf.lt, hf.cell t _ (List.getElem?_eq_getElem h1), (hf.there t (by omega)).2⟩
/-- Two cells of a slice are laid anew. -/
theorem SlAt.set2 {cap n g t : Nat} {l : List Value} {w : World} (h : SlAt 2 w (some ⟨g, 0, none⟩) cap n l) (ht : t < n) (u v : Value) (hu : u.oneCell' = true) (hv : v.oneCell' = true) : ∃ l', SlAt 2 ((w.setCell ⟨g, t * 2, none⟩ u).setCell ⟨g, t * 2 + 1, none⟩ v) (some ⟨g, 0, none⟩) cap n l' := by
  rcases h with ⟨e, _⟩ | ⟨g', e, hf⟩
  · cases e
  · cases e
    exact ⟨_, .inr ⟨g, rfl, (hf.set (t := t * 2) (by rw [hf.len]; omega) hu).set (t := t * 2 + 1) (by rw [List.length_set, hf.len]; omega) hv⟩⟩

set_option maxRecDepth 20000 in
set_option maxHeartbeats 4000000 in
theorem cellOwn_any (i x : Int) (a : Option Addr) (n cap : Nat) (K V : Nat → Int) (p v : Int) (w : World) (h : Raws w a n K V) :
    Calls Try.prog 7 #[.int .i64 i, .agg #[.int .i64 x, .slice a n cap], .agg #[.int .u64 p, .int .i64 v]] w fun e w' => e = .returned (.bool true) ∧ Below w.heap.size w w' := by
  have hsf := run_store_float (P := Try.prog)
  have hi := i64_and255 i
  obtain ⟨k, hk⟩ : ∃ k : Nat, i % 256 = (k : Int) := ⟨(i % 256).toNat, by omega⟩
  have hk2 : k < 256 := by omega
  rw [hk] at hi
  clear hk
  have HH := hidq h
  clear h
  go_enter Try.func7, Try.ntmps7
  go_wp2_with fail
  obtain ⟨W0, hW0⟩ : ∃ W0, (w.alloc (boxW x (.slice a n cap))).alloc (.cells #[.int .u64 p, .int .i64 v] 33) = W0 := ⟨_, rfl⟩
  have hb0 : Below w.heap.size w W0 := by rw [← hW0]; exact ((Below.refl _ _).alloc (Nat.le_refl _) _).alloc (by simp) _
  have hz0 : W0.heap.size = w.heap.size + 2 := by rw [← hW0]; simp
  have hbx : (W0.cell? ⟨w.heap.size, 0, none⟩ = some (.int .i64 x) ∧ W0.cell? ⟨w.heap.size, 1, none⟩ = some (.slice a n cap)) ∧ W0.cell? ⟨w.heap.size + 1, 0, none⟩ = some (.int .u64 p) ∧ W0.cell? ⟨w.heap.size + 1, 1, none⟩ = some (.int .i64 v) := by
    have s1 : (w.alloc (boxW x (.slice a n cap))).heap.size = w.heap.size + 1 := World.size_alloc _ _
    have b1 : But (fun _ => False) (w.alloc (boxW x (.slice a n cap))) W0 := by rw [← hW0]; exact (But.refl _ _).alloc _
    refine ⟨⟨?_, ?_⟩, ?_, ?_⟩
    · rw [b1.cell (p := ⟨w.heap.size, 0, none⟩) (by rw [s1]; exact Nat.lt_succ_self _) id]; exact (World.cell?_alloc_new _ _ _ 0).trans rfl
    · rw [b1.cell (p := ⟨w.heap.size, 1, none⟩) (by rw [s1]; exact Nat.lt_succ_self _) id]; exact (World.cell?_alloc_new _ _ _ 1).trans rfl
    · rw [← hW0, ← s1]; exact (World.cell?_alloc_new _ _ _ 0).trans rfl
    · rw [← hW0, ← s1]; exact (World.cell?_alloc_new _ _ _ 1).trans rfl
  rw [hW0]
  clear hW0
  refine (awake5_any W0).mono ?_
  rintro e w1 ⟨rfl, hb1⟩
  go_wp2_with fail
  refine (new5_any _).mono ?_
  rintro e w2 ⟨rfl, hM2, hb2⟩
  have hB2 : Below w.heap.size w w2 := (hb0.trans (hb1.mono hb0.size)).trans (hb2.mono (by have := hb0.size; have := hb1.size; omega))
  have hB02 : Below W0.heap.size W0 w2 := hb1.trans (hb2.mono hb1.size)
  obtain ⟨⟨x0, x1⟩, x2, x3⟩ := hbx
  have y0 := (hB02.cell (p := ⟨w.heap.size, 0, none⟩) (by show w.heap.size < _; omega)).trans x0
  have y1 := (hB02.cell (p := ⟨w.heap.size, 1, none⟩) (by show w.heap.size < _; omega)).trans x1
  have y2 := (hB02.cell (p := ⟨w.heap.size + 1, 0, none⟩) (by show w.heap.size + 1 < _; omega)).trans x2
  have y3 := (hB02.cell (p := ⟨w.heap.size + 1, 1, none⟩) (by show w.heap.size + 1 < _; omega)).trans x3
  have hs1 := hb1.size
  have hs2 := hb2.size
  obtain ⟨b, hbe⟩ : ∃ b, w1.heap.size = b := ⟨_, rfl⟩
  rw [hbe] at hM2
  have hbl : b < w2.heap.size := hM2.lt b rfl
  have hO := hidq (own5_any x a n cap K V w2 (HH.out.below (hB2.mono (Nat.le_refl _))))
  rw [hbe]
  clear x0 x1 x2 x3
  go_wp2_with fail
  refine hO.out.mono ?_
  rintro e w3 ⟨m, a1, cap1, hm, rfl, hS3, hF3, hb3⟩
  have hs3 := hb3.size
  have hm6 : m ≤ 6 := by omega
  have HM := hidq hm
  have hlen : (kts (rawL K V m)).length = m := by rw [kts_length, rawL_length]
  have hM4 : MemAt (w3.alloc (boxV x (.slice a1 m cap1))) b (fun j => j = b) Mem.empty := (hM2.below hb3).but (S := fun _ => False) ((But.refl _ _).alloc _) (fun _ _ e => e)
  have hS4 := hS3.but (S := fun _ => False) ((But.refl _ w3).alloc (boxV x (.slice a1 m cap1))) (fun _ _ e => e)
  have hW := write_yes b k (fun j => j = b) Mem.empty 0 x a1 cap1 (kts (rawL K V m)) _ hM4 (by rw [hlen]; exact hS4) (fun j hj e => by have := hF3 j hj; omega) (by rw [hlen]; omega) (by omega) (by decide) rfl
  rw [hlen] at hW
  have HW := hidq hW
  have Hbe := hidq hbe
  clear hW hM4 hM2 hO hm hbe
  go_wp2_with fail
  refine HW.out.mono ?_
  rintro e w5 ⟨rfl, hM5, hB5⟩
  have hs5 := hB5.size
  rw [World.size_alloc] at hs5
  have hrb : ¬ w3.heap.size = b := by omega
  have r0 : w5.cell? ⟨w3.heap.size, 0, none⟩ = some (.int .i64 x) := by rw [hB5.cell (p := ⟨w3.heap.size, 0, none⟩) (by simp) hrb]; exact (World.cell?_alloc_new _ _ _ 0).trans rfl
  have r1 : w5.cell? ⟨w3.heap.size, 1, none⟩ = some (.slice a1 m cap1) := by rw [hB5.cell (p := ⟨w3.heap.size, 1, none⟩) (by simp) hrb]; exact (World.cell?_alloc_new _ _ _ 1).trans rfl
  have hS5 : SlAt 2 w5 a1 cap1 m (flatI (kts (rawL K V m))) := hS4.but hB5 (fun j hj e => by have := hF3 j hj; omega)
  have hlt3 := hS3.lt
  have hno1 : ∀ j, own' (fun j => j = b) (w3.alloc (boxV x (.slice a1 m cap1))) w5 j → ¬ inB a1 j := fun j hj e => by
    have h1 := hF3 j e
    have h2 := hlt3 j e
    rcases hj with hj | hj
    · omega
    · rw [World.size_alloc] at hj; omega
  have hBw5 : But (fun j => j = b) w3 w5 := ((But.refl (fun j => j = b) w3).alloc _).trans hB5
  have hnr1 : ¬ inB a1 w3.heap.size := fun e => by have := hlt3 _ e; omega
  have HS5 := hidq hS5
  have HM5 := hidq hM5
  clear hS5 hM5 hS4 hS3 HW hB5
  have hmI : (m : Int) ≤ 6 := by omega
  go_wp2_with fail
  go_loopw [28] (fun s wr => ∃ (j : Nat) (l : List Value), s = .int .i64 (j : Int) ∧ j ≤ m ∧ But (inB a1) w5 wr ∧ SlAt 2 wr a1 cap1 m l) (fun s _ => m - (intOf s).toNat)
  case atStart => exact ⟨0, _, rfl, Nat.zero_le _, But.refl _ _, HS5.out⟩
  case round =>
    obtain ⟨j, l, rfl, hj, hB, hS⟩ := hrel
    have rr : wr.cell? ⟨w3.heap.size, 1, none⟩ = some (.slice a1 m cap1) := by rw [hB.cell (p := ⟨w3.heap.size, 1, none⟩) (by show w3.heap.size < _; omega) hnr1]; exact r1
    by_cases hlt : j < m
    · obtain ⟨g, u0, rfl, hg, hc0, hz0'⟩ := hS.there (t := j * 2) (by omega)
      obtain ⟨g', u1, hge, _, hc1, hz1'⟩ := hS.there (t := j * 2 + 1) (by omega)
      cases hge
      obtain ⟨l', hS'⟩ := hS.set2 hlt (.float .f64 4613937818241073152) (.int .i64 77) rfl rfl
      have HS' := hidq hS'
      have j1 : (j : Int) < (m : Int) := by omega
      have hle := hS.le
      have hb' : But (inB (some ⟨g, 0, none⟩)) w5 ((wr.setCell ⟨g, j * 2, none⟩ (.float .f64 4613937818241073152)).setCell ⟨g, j * 2 + 1, none⟩ (.int .i64 77)) := (hB.set1 g _ ⟨_, rfl, rfl⟩ _).set1 g _ ⟨_, rfl, rfl⟩ _
      have HB' := hidq hb'
      clear hS hS' hB hb' hbl hs1 hs2 hs3 hs5 hz0
      go_wp2
      go_roundw
      case rel => exact ⟨j + 1, l', by go_num, by omega, HB'.out, HS'.out⟩
      case measure => simp [intOf]; omega
    · obtain ⟨w6, hw6⟩ : ∃ w6, w6 = wr := ⟨_, rfl⟩
      subst hw6
      have hdl : decide ((j : Int) < (m : Int)) = false := decide_eq_false (by omega)
      have hM6 : MemAt w6 b (own' (fun j => j = b) (w3.alloc (boxV x (.slice a1 m cap1))) w5) (Mem.empty.put k x (kts (rawL K V m))) := HM5.out.but hB hno1
      have hR := read5_any b _ _ (k : Int) w6 hM6
      have hlk : (Mem.empty.put k x (kts (rawL K V m))).look (k : Int) = ⟨1, x, kts (rawL K V m)⟩ := by rw [look_nat]; show (if k = k then _ else _) = _; rw [if_pos rfl]; rfl
      rw [hlk] at hR
      dsimp only at hR
      rw [hlen] at hR
      have HR := hidq hR
      have HM6 := hidq hM6
      have hs6 := hB.size
      have hlim := HM6.out.lt
      generalize own' (fun j => j = b) (w3.alloc (boxV x (.slice a1 m cap1))) w5 = O at *
      clear hR hM6 hS HS5 HM5 hlk r0 r1
      have hbe := Hbe.out
      have hgo : ∀ j, j < w.heap.size + 2 → ¬ j = b ∧ ¬ inB a1 j := fun j hj => ⟨by omega, fun e => by have := hF3 j e; omega⟩
      have YB : But (fun j => j = b ∨ inB a1 j) w2 w6 := (((But.of_below hb3).trans (hBw5.mono (fun _ _ e => .inl e))).trans (hB.mono (fun _ _ e => .inr e)))
      have hYb : ∀ j, j < w.heap.size + 2 → ¬ (j = b ∨ inB a1 j) := fun j hj e => e.elim (hgo j hj).1 (hgo j hj).2
      have z0 := (YB.cell (p := ⟨w.heap.size, 0, none⟩) (by show w.heap.size < _; omega) (hYb w.heap.size (by omega))).trans y0
      have z1 := (YB.cell (p := ⟨w.heap.size, 1, none⟩) (by show w.heap.size < _; omega) (hYb w.heap.size (by omega))).trans y1
      have z2 := (YB.cell (p := ⟨w.heap.size + 1, 0, none⟩) (by show w.heap.size + 1 < _; omega) (hYb (w.heap.size + 1) (by omega))).trans y2
      have z3 := (YB.cell (p := ⟨w.heap.size + 1, 1, none⟩) (by show w.heap.size + 1 < _; omega) (hYb (w.heap.size + 1) (by omega))).trans y3
      have hBw : Below w.heap.size w w6 := hB2.trans (YB.below hB2.size (fun j e => by rcases e with e | e; omega; have := hF3 j e; omega))
      have hW0s : w.heap.size + 2 ≤ w6.heap.size := by omega
      clear y0 y1 y2 y3 YB hYb hgo hBw5 hB hB02 hB2 hb0 hb1 hb2 hb3 hbe hs1 hs2 hs3 hs5 hs6 hz0 hbl hrb hnr1 hno1 hF3 hlt3
      go_wp2_with fail
      refine HR.out.mono ?_
      rintro e w7 ⟨a2, cap2, rfl, hS7, hF7, hb7⟩
      have hs7 := hb7.size
      have hlt7 := hS7.lt
      have hS8 := hS7.but (S := fun _ => False) ((But.refl _ w7).alloc (boxC 1 x (.slice a2 m cap2))) (fun _ _ e => e)
      have hb8 : Below w6.heap.size w6 (w7.alloc (boxC 1 x (.slice a2 m cap2))) := hb7.trans ((Below.refl _ _).alloc hb7.size _)
      obtain ⟨W8, hW8⟩ : ∃ W8, w7.alloc (boxC 1 x (.slice a2 m cap2)) = W8 := ⟨_, rfl⟩
      have s2c : W8.cell? ⟨w7.heap.size, 2, none⟩ = some (.slice a2 m cap2) := by rw [← hW8]; exact (World.cell?_alloc_new _ _ _ 2).trans rfl
      have hz8 : W8.heap.size = w7.heap.size + 1 := by rw [← hW8]; simp
      rw [hW8] at hS8 hb8
      have z0 := (hb8.cell (p := ⟨w.heap.size, 0, none⟩) (by show w.heap.size < _; omega)).trans z0
      have z1 := (hb8.cell (p := ⟨w.heap.size, 1, none⟩) (by show w.heap.size < _; omega)).trans z1
      have z2 := (hb8.cell (p := ⟨w.heap.size + 1, 0, none⟩) (by show w.heap.size + 1 < _; omega)).trans z2
      have z3 := (hb8.cell (p := ⟨w.heap.size + 1, 1, none⟩) (by show w.heap.size + 1 < _; omega)).trans z3
      have hnr2 : ¬ inB a2 w7.heap.size := fun e => by have := hlt7 _ e; omega
      have HS8 := hidq hS8
      have HM8 := hidq (HM6.out.below hb8)
      have HW8 := hidq hW8
      clear hS7 HR HM6 hS8
      go_wp2_with fail
      try rw [HW8.out]
      clear hW8
      go_loopw [44] (fun s wr => ∃ (j : Nat) (l : List Value), s = .int .i64 (j : Int) ∧ j ≤ m ∧ But (inB a2) W8 wr ∧ SlAt 2 wr a2 cap2 m l) (fun s _ => m - (intOf s).toNat)
      case atStart => exact ⟨0, _, rfl, Nat.zero_le _, But.refl _ _, HS8.out⟩
      case round =>
        obtain ⟨j2, l2, rfl, hj2, hBb, hSb⟩ := hrel
        have hsb := hBb.size
        have sc : wr.cell? ⟨w7.heap.size, 2, none⟩ = some (.slice a2 m cap2) := by rw [hBb.cell (p := ⟨w7.heap.size, 2, none⟩) (by show w7.heap.size < _; omega) hnr2]; exact s2c
        have hlo : ∀ j, j < w6.heap.size → ¬ inB a2 j := fun j hj e => by have := hF7 j e; omega
        have t0 := (hBb.cell (p := ⟨w.heap.size, 0, none⟩) (by show w.heap.size < _; omega) (hlo w.heap.size (by omega))).trans z0
        have t1 := (hBb.cell (p := ⟨w.heap.size, 1, none⟩) (by show w.heap.size < _; omega) (hlo w.heap.size (by omega))).trans z1
        have t2 := (hBb.cell (p := ⟨w.heap.size + 1, 0, none⟩) (by show w.heap.size + 1 < _; omega) (hlo (w.heap.size + 1) (by omega))).trans z2
        have t3 := (hBb.cell (p := ⟨w.heap.size + 1, 1, none⟩) (by show w.heap.size + 1 < _; omega) (hlo (w.heap.size + 1) (by omega))).trans z3
        by_cases hlt2 : j2 < m
        · obtain ⟨g, u0, rfl, hg, hc0, hz0'⟩ := hSb.there (t := j2 * 2) (by omega)
          obtain ⟨g', u1, hge, _, hc1, hz1'⟩ := hSb.there (t := j2 * 2 + 1) (by omega)
          cases hge
          have j1 : (j2 : Int) < (m : Int) := by omega
          have hle := hSb.le
          have hOw := hidq (fun W => own_any p v W)
          have FC := hidq (fun W (hW : But (fun _ => False) wr W) => (show (W.cell? ⟨w7.heap.size, 2, none⟩ = some (.slice (some ⟨g, 0, none⟩) m cap2) ∧ W.cell? ⟨g, j2 * 2, none⟩ = some u0 ∧ W.cell? ⟨g, j2 * 2 + 1, none⟩ = some u1) ∧ W.frozen? ⟨g, j2 * 2, none⟩ = false ∧ W.frozen? ⟨g, j2 * 2 + 1, none⟩ = false ∧ g < W.heap.size from
            ⟨⟨(hW.cell (p := ⟨w7.heap.size, 2, none⟩) (by show w7.heap.size < _; omega) id).trans sc, (hW.cell (p := ⟨g, j2 * 2, none⟩) hg id).trans hc0, (hW.cell (p := ⟨g, j2 * 2 + 1, none⟩) hg id).trans hc1⟩,
             (hW.frozen (p := ⟨g, j2 * 2, none⟩) hg id).trans hz0', (hW.frozen (p := ⟨g, j2 * 2 + 1, none⟩) hg id).trans hz1', by have := hW.size; omega⟩))
          have FIN := hidq (fun W (hW : But (fun _ => False) wr W) => (show ∃ l', SlAt 2 ((W.setCell ⟨g, j2 * 2, none⟩ (.float .f64 (nf p))).setCell ⟨g, j2 * 2 + 1, none⟩ (.int .i64 v)) (some ⟨g, 0, none⟩) cap2 m l' ∧ But (inB (some ⟨g, 0, none⟩)) W8 ((W.setCell ⟨g, j2 * 2, none⟩ (.float .f64 (nf p))).setCell ⟨g, j2 * 2 + 1, none⟩ (.int .i64 v)) from by
            obtain ⟨l', hl'⟩ := (hSb.but hW (fun _ _ e => e)).set2 hlt2 (.float .f64 (nf p)) (.int .i64 v) rfl rfl
            exact ⟨l', hl', ((hBb.trans (hW.mono (fun _ _ e => e.elim))).set1 g _ ⟨_, rfl, rfl⟩ _).set1 g _ ⟨_, rfl, rfl⟩ _⟩))
          clear hSb hBb hsb hb8 hb7 hs7 hz8 hW0s
          go_wp2
          go_region_with (go_at_call 12; refine (hOw.out _).mono ?_; rintro e w9 ⟨rfl, hb9⟩; have hbb9 : But (fun _ => False) wr w9 := ((But.refl _ wr).drew).trans (But.of_below hb9); obtain ⟨⟨f1, f2, f3⟩, f4, f5, f6⟩ := FC.out w9 hbb9)
          all_goals go_wp2
          all_goals go_roundw
          all_goals first
            | (show (_ : Nat) < _; simp [intOf]; omega)
            | (obtain ⟨l', q1, q2⟩ := FIN.out w9 hbb9
               exact ⟨j2 + 1, l', by go_num, by omega, q2, q1⟩)
        · have hdl2 : decide ((j2 : Int) < (m : Int)) = false := decide_eq_false (by omega)
          have hM9 : MemAt wr b O (Mem.empty.put k x (kts (rawL K V m))) := HM8.out.but hBb (fun j hj e => by have := hlim j hj; have := hF7 j e; omega)
          have hlk : (Mem.empty.put k x (kts (rawL K V m))).look (k : Int) = ⟨1, x, kts (rawL K V m)⟩ := by rw [look_nat]; show (if k = k then _ else _) = _; rw [if_pos rfl]; rfl
          have hR := fun W (hW : But (fun _ => False) wr W) => read5_any b O _ (k : Int) W (hM9.but hW (fun _ _ e => e))
          rw [hlk] at hR
          dsimp only at hR
          rw [hlen] at hR
          have HR := hidq hR
          have hBall : Below w.heap.size w wr := (hBw.trans (hb8.mono hBw.size)).trans (hBb.below (by omega) (fun j e => by have := hF7 j e; omega))
          have HT := hidq (fun W (hW : But (fun _ => False) wr W) => told5_any x a n cap K V W (HH.out.below (hBall.trans (hW.below hBall.size (fun _ e => e.elim)))))
          have hrl : (rawL K V m).length = m := rawL_length K V m
          have FC := hidq (fun W (hW : But (fun _ => False) wr W) => (show W.cell? ⟨w.heap.size, 0, none⟩ = some (.int .i64 x) ∧ W.cell? ⟨w.heap.size, 1, none⟩ = some (.slice a n cap) from
            ⟨(hW.cell (p := ⟨w.heap.size, 0, none⟩) (by show w.heap.size < _; omega) id).trans t0, (hW.cell (p := ⟨w.heap.size, 1, none⟩) (by show w.heap.size < _; omega) id).trans t1⟩))
          have hf1 := fldC_1
          have HRL := hidq hrl
          have HBA := hidq hBall
          have HM6 := hidq (show m ≤ 1000000 by omega)
          clear hM9 hlk hR hSb hBb hsb hb8 hb7 hs7 hz8 hrl hBall hlen
          go_wp2
          go_region_with (first
            | (go_at_call 29; refine (HR.out _ hbT).mono ?_; rintro e w10 ⟨a3, cap3, rfl, hS10, hF10, hb10⟩; have hbU := hbT.trans (But.of_below hb10); obtain ⟨g1, g2⟩ := FC.out w10 hbU)
            | (go_at_call 29; refine (HR.out _ ((But.refl _ wr).drew)).mono ?_; rintro e w10 ⟨a3, cap3, rfl, hS10, hF10, hb10⟩; have hbR := ((But.refl (fun _ => False) wr).drew).trans (But.of_below hb10); obtain ⟨g1, g2⟩ := FC.out w10 hbR)
            | (go_at_call 37; refine (HT.out _ hbR).mono ?_; rintro e w11 ⟨m2, a4, cap4, hm2, rfl, hS11, hF11, hb11⟩; obtain rfl : m = m2 := HM.out.trans hm2.symm; clear hm2; have hbU := hbR.trans (But.of_below hb11); obtain ⟨g1, g2⟩ := FC.out w11 hbU)
            | (go_at_call 37; refine (HT.out _ ((But.refl _ wr).drew)).mono ?_; rintro e w11 ⟨m2, a4, cap4, hm2, rfl, hS11, hF11, hb11⟩; obtain rfl : m = m2 := HM.out.trans hm2.symm; clear hm2; have hbT := ((But.refl (fun _ => False) wr).drew).trans (But.of_below hb11); obtain ⟨g1, g2⟩ := FC.out w11 hbT)
            | (go_at_call 30; refine (is5_any x a3 a4 cap3 cap4 _ _ _ HRL.out (hS10.below hb11) hS11 HM6.out).mono ?_; rintro e w12 ⟨rfl, hb12⟩)
            | (go_at_call 30; refine (is5_any x a3 a4 cap3 cap4 _ _ _ HRL.out hS10 (hS11.below hb10) HM6.out).mono ?_; rintro e w12 ⟨rfl, hb12⟩))
          all_goals go_wp2
          all_goals go_ret
          all_goals exact ⟨rfl, (HBA.out.trans (hbU.below HBA.out.size (fun _ e => e.elim))).trans (hb12.mono (by have := HBA.out.size; have := hbU.size; omega))⟩
end Go.Proofs.Ytogacknpkoiokaa
