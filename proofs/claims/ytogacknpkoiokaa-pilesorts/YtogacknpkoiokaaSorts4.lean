/-
  Layer 4's law: any items, in order: the call returns true.
-/
import Derived.Test.YtogacknpkoiokaaAll4
import Derived.Test.YtogacknpkoiokaaRaws4
import Derived.Test.YtogacknpkoiokaaFits5
namespace Go.Proofs.Ytogacknpkoiokaa
open Go.RowKit Go.Sort

/-- What was handed in, as the program's items; one behind the other, and turned about; as the document's. -/
def ownL (K V : Nat → Int) (n : Nat) : List It := (List.range n).map fun i => (nf (K i), V i)
theorem ownL_length (K V : Nat → Int) (n : Nat) : (ownL K V n).length = n := by simp [ownL]
theorem ownL_succ (K V : Nat → Int) (n : Nat) : ownL K V (n + 1) = ownL K V n ++ [(nf (K n), V n)] := by simp [ownL, List.range_succ]
theorem ownL_rev (K V : Nat → Int) (n : Nat) : (ownL K V (n + 1)).reverse = (nf (K n), V n) :: (ownL K V n).reverse := by rw [ownL_succ, List.reverse_append]; rfl
def flatQ (K V : Nat → Int) (n : Nat) : List Value := (List.range n).flatMap fun i => [.int .u64 (K i), .int .i64 (V i)]
theorem flatQ_succ (K V : Nat → Int) (n : Nat) : flatQ K V (n + 1) = flatQ K V n ++ [.int .u64 (K n), .int .i64 (V n)] := by simp [flatQ, List.range_succ]
theorem flatQ_length (K V : Nat → Int) : ∀ n, (flatQ K V n).length = n * 2
  | 0 => rfl
  | n + 1 => by rw [flatQ_succ, List.length_append, flatQ_length K V n]; simp; omega
theorem flatQ_get (K V : Nat → Int) : ∀ (n i : Nat), i < n → (flatQ K V n)[i * 2]? = some (.int .u64 (K i)) ∧ (flatQ K V n)[i * 2 + 1]? = some (.int .i64 (V i))
  | n + 1, i, h => by
    rw [flatQ_succ]
    by_cases e : i < n
    · rw [List.getElem?_append_left (by rw [flatQ_length]; omega), List.getElem?_append_left (by rw [flatQ_length]; omega)]
      exact flatQ_get K V n i e
    · have : i = n := by omega
      subst this
      rw [List.getElem?_append_right (by rw [flatQ_length]; omega), List.getElem?_append_right (by rw [flatQ_length]; omega), flatQ_length]
      simp

theorem Flat.items {w : World} {g cap n : Nat} {L : List It} (h : Flat 2 w g cap n (flatI L)) (hL : L.length = n) (P : Nat → Nat) (V : Nat → Int) (hP : ∀ i (hi : i < L.length), L[i] = (P i, V i)) (hb : ∀ i, i < n → P i < 18446744073709551616) : Items w (some ⟨g, 0, none⟩) n P V := fun i hi => by
  have hil : i < L.length := by omega
  obtain ⟨e0, e1⟩ := flatI_get L i hil
  rw [hP i hil] at e0 e1
  exact ⟨g, rfl, h.lt, h.cell _ _ e0, h.cell _ _ e1, hb i hi⟩
theorem Flat.rawAt {w : World} {g cap n : Nat} {K V : Nat → Int} (h : Flat 2 w g cap n (flatQ K V n)) (hb : ∀ i, i < n → 0 ≤ K i ∧ K i < 18446744073709551616) : RawAt w g n K V :=
  ⟨h.lt, fun i hi => ⟨h.cell _ _ (flatQ_get K V n i hi).1, h.cell _ _ (flatQ_get K V n i hi).2, (hb i hi).1, (hb i hi).2⟩⟩
/-- The other way about, in order, it is the same list. -/
theorem srt_back (K V : Nat → Int) (n : Nat) : srt (canArr (fun i => nf (K (n - 1 - i))) (fun i => V (n - 1 - i)) n n).toList = rsrt K V n := by
  refine srt_rsrt K V n _ ?_
  have e : (canArr (fun i => nf (K (n - 1 - i))) (fun i => V (n - 1 - i)) n n).toList = ((List.range n).map (kiOf K V)).reverse := by
    rw [canArr_list (fun i => K (n - 1 - i)) (fun i => V (n - 1 - i)) n]
    refine List.ext_getElem (by simp) ?_
    intro i h1 h2
    simp [kiOf]
  rw [e]
  exact List.reverse_perm _
theorem srt_own (K V : Nat → Int) (n : Nat) : srt (canArr (fun i => nf (K i)) V n n).toList = rsrt K V n := by
  refine srt_rsrt K V n _ ?_
  rw [canArr_list K V n]

def sorts16R (n cap k ci gi g off j : Nat) (K V : Nat → Int) : List (Value → World → Prop) :=
  [fun v _ => v = .slice (some ⟨gi, 0, none⟩) k ci,
   fun v _ => v = .int .i64 (j : Int),
   fun v _ => v = .pointer (some ⟨gi, j * 2, none⟩),
   fun v _ => v = .pointer (some ⟨gi, j * 2, none⟩),
   fun v _ => v = .float .f64 (nf (K j)),
   fun v _ => v = .int .u64 (ni (nf (K j))),
   fun v _ => v = .slice (some ⟨g, off, none⟩) n cap,
   fun v _ => v = .int .i64 (j : Int),
   fun v _ => v = .pointer (some ⟨g, off + j * 2, none⟩),
   fun v _ => v = .agg #[.int .u64 (K j), .int .i64 (V j)],
   fun v _ => v = .agg #[.float .f64 (nf (K j)), .int .i64 (V j)],
   fun v _ => v = .float .f64 (nf (K j)),
   fun v _ => v = .int .u64 (ni (nf (K j))),
   fun v _ => v = .bool false,
   fun v _ => v = .bool false,
   fun v _ => v = .slice (some ⟨gi, 0, none⟩) k ci,
   fun v _ => v = .int .i64 (j : Int),
   fun v _ => v = .pointer (some ⟨gi, j * 2, none⟩),
   fun v _ => v = .pointer (some ⟨gi, j * 2 + 1, none⟩),
   fun v _ => v = .int .i64 (V j),
   fun v _ => v = .slice (some ⟨g, off, none⟩) n cap,
   fun v _ => v = .int .i64 (j : Int),
   fun v _ => v = .pointer (some ⟨g, off + j * 2, none⟩),
   fun v _ => v = .pointer (some ⟨g, off + j * 2 + 1, none⟩),
   fun v _ => v = .int .i64 (V j),
   fun v _ => v = .bool false,
   fun v _ => v = .bool false]
theorem sorts16R_kept (n cap k ci gi g off j : Nat) (K V : Nat → Int) : Reg.AllKept Reg.Keeps (sorts16R n cap k ci gi g off j K V) :=
  ⟨(fun _ _ _ _ h => h), (fun _ _ _ _ h => h), (fun _ _ _ _ h => h), (fun _ _ _ _ h => h), (fun _ _ _ _ h => h), (fun _ _ _ _ h => h), (fun _ _ _ _ h => h), (fun _ _ _ _ h => h), (fun _ _ _ _ h => h), (fun _ _ _ _ h => h), (fun _ _ _ _ h => h), (fun _ _ _ _ h => h), (fun _ _ _ _ h => h), (fun _ _ _ _ h => h), (fun _ _ _ _ h => h), (fun _ _ _ _ h => h), (fun _ _ _ _ h => h), (fun _ _ _ _ h => h), (fun _ _ _ _ h => h), (fun _ _ _ _ h => h), (fun _ _ _ _ h => h), (fun _ _ _ _ h => h), (fun _ _ _ _ h => h), (fun _ _ _ _ h => h), (fun _ _ _ _ h => h), (fun _ _ _ _ h => h), (fun _ _ _ _ h => h), trivial⟩
theorem fldI_0 (x y : Value) (w : World) : (Instr.field 29 (.agg #[x, y]) 0).run Try.prog w = .ok x w := by kernel_rfl

set_option maxRecDepth 20000 in
set_option maxHeartbeats 3000000 in
theorem pileSorts_any (a : Option Addr) (n cap : Nat) (K V : Nat → Int) (w : World) (h : Raws w a n K V) :
    Calls Try.prog 4 #[.slice a n cap] w fun e w' => e = .returned (.bool true) ∧ Below w.heap.size w w' := by
  have hsf := run_store_float (P := Try.prog)
  have HH := hidq h
  clear h
  go_enter Try.func4, Try.ntmps4
  go_wp2_with fail
  refine (awake4_any w).mono ?_
  rintro e w1 ⟨rfl, hb1⟩
  go_wp2_with fail
  have hB1 : Below w.heap.size w w1 := hb1
  obtain ⟨W1, hW1⟩ : ∃ W1, ((w1.alloc (.cells #[] 29)).alloc (.cells #[] 29)).alloc (.cells #[] 35) = W1 := ⟨_, rfl⟩
  have hbW : Below w1.heap.size w1 W1 := by rw [← hW1]; exact (((Below.refl _ _).alloc (Nat.le_refl _) _).alloc (by simp) _).alloc (by simp; omega) _
  have F0 : (Flat 2 W1 w1.heap.size 0 0 (flatI (ownL K V 0)) ∧ Flat 2 W1 (w1.heap.size + 1) 0 0 (flatI (ownL K V 0).reverse)) ∧ Flat 2 W1 (w1.heap.size + 1 + 1) 0 0 (flatQ K V 0) := by
    have s1 : (w1.alloc (.cells #[] 29)).heap.size = w1.heap.size + 1 := World.size_alloc _ _
    have s2 : ((w1.alloc (.cells #[] 29)).alloc (.cells #[] 29)).heap.size = w1.heap.size + 1 + 1 := by rw [World.size_alloc, s1]
    have b3 : But (fun _ => False) ((w1.alloc (.cells #[] 29)).alloc (.cells #[] 29)) W1 := by rw [← hW1]; exact (But.refl _ _).alloc _
    have b2 : But (fun _ => False) (w1.alloc (.cells #[] 29)) W1 := ((But.refl _ _).alloc _).trans b3
    refine ⟨⟨?_, ?_⟩, ?_⟩
    · exact (Flat.new w1 [] 29 2 0 rfl (Nat.zero_le _) (fun _ h => (by cases h))).but b2 id
    · have := Flat.new (w1.alloc (.cells #[] 29)) [] 29 2 0 rfl (Nat.zero_le _) (fun _ h => (by cases h))
      rw [s1] at this
      exact this.but b3 id
    · have := Flat.new ((w1.alloc (.cells #[] 29)).alloc (.cells #[] 29)) [] 35 2 0 rfl (Nat.zero_le _) (fun _ h => (by cases h))
      rw [s2] at this
      rw [← hW1]
      exact this
  try rw [hW1]
  clear hW1
  go_loopw [3, 4, 5, 6] (fun s3 s4 s5 s6 wr => ∃ (k gi ci gb cb gx cx : Nat), s6 = .int .i64 (k : Int) ∧ k ≤ min n 40 ∧ (s3 = .slice (some ⟨gi, 0, none⟩) k ci ∧ s4 = .slice (some ⟨gb, 0, none⟩) k cb ∧ s5 = .slice (some ⟨gx, 0, none⟩) k cx) ∧
      (Flat 2 wr gi ci k (flatI (ownL K V k)) ∧ Flat 2 wr gb cb k (flatI (ownL K V k).reverse) ∧ Flat 2 wr gx cx k (flatQ K V k)) ∧ (gi ≠ gb ∧ gi ≠ gx ∧ gb ≠ gx) ∧ (w1.heap.size ≤ gi ∧ w1.heap.size ≤ gb ∧ w1.heap.size ≤ gx) ∧ Below w1.heap.size w1 wr) (fun _ _ _ s6 _ => 40 - (intOf s6).toNat)
  case atStart => exact ⟨0, w1.heap.size, 0, w1.heap.size + 1, 0, w1.heap.size + 1 + 1, 0, rfl, Nat.zero_le _, ⟨rfl, rfl, rfl⟩, ⟨F0.1.1, F0.1.2, F0.2⟩, ⟨by omega, by omega, by omega⟩, ⟨by omega, by omega, by omega⟩, hbW⟩
  case round =>
    obtain ⟨k, gi, ci, gb, cb, gx, cx, rfl, hk, ⟨rfl, rfl, rfl⟩, ⟨hFi, hFb, hFx⟩, ⟨hib, hix, hbx⟩, ⟨li, lb, lx⟩, hB⟩ := hrel
    have hsB := hB1.size
    by_cases hlt : k < n ∧ k < 40
    · have k1 : (k : Int) < (n : Int) := by omega
      have k2 : (k : Int) < 40 := by omega
      obtain ⟨g, off, rfl, hg, hc0, hc1, hK0, hK1⟩ := HH.out k hlt.1
      have FR := hidq (fun W (hW : Below w1.heap.size w1 W) => (show W.cell? ⟨g, off + k * 2, none⟩ = some (.int .u64 (K k)) ∧ W.cell? ⟨g, off + k * 2 + 1, none⟩ = some (.int .i64 (V k)) from by
        have hb : Below w.heap.size w W := hB1.trans (hW.mono hB1.size)
        exact ⟨(hb.cell (p := ⟨g, off + k * 2, none⟩) hg).trans hc0, (hb.cell (p := ⟨g, off + k * 2 + 1, none⟩) hg).trans hc1⟩))
      obtain ⟨r0, r1⟩ := FR.out wr hB
      have hOw := hidq (fun W => own_any (K k) (V k) W)
      have HFi := hidq hFi
      have HFb := hidq hFb
      have HFx := hidq hFx
      have HB := hidq hB
      clear hFi hFb hFx hc0 hc1 hB
      go_wp2_with fail
      refine (hOw.out _).mono ?_
      rintro e w2 ⟨rfl, hb2⟩
      have hB2 : But (fun _ => False) wr w2 := But.of_below hb2
      have hBel3 := hidq (fun (o : Obj) w3 (hb3 : But (fun j => j = gi) (w2.alloc o) w3) => (show Below w1.heap.size w1 w3 from HB.out.trans ((((hB2.alloc o).mono (fun _ _ e => e.elim)).trans hb3).below HB.out.size (fun j e => by omega))))
      go_wp2_with (at_builtin; refine wpList_flat plainI _ rfl (.tmp 26) (.tmp 32) rfl gi ci k (flatI (ownL K V k)) rfl (HFi.out.but (hB2.alloc _) id) _ rfl 1 _ (src_two _ Try.underlying25 _ (.float .f64 (nf (K k))) (.int .i64 (V k)) (by simp) (by simp) rfl rfl) (by omega) ?_; intro g2 c2 w3 hF2 hb3 hg2; obtain ⟨q0, q1⟩ := FR.out w3 (hBel3.out _ w3 hb3))
      have hB3 := hBel3.out _ w3 hb3
      have HF2 := hidq hF2
      have HB3 := hidq hB3
      have hbw3 : But (fun j => j = gi) wr w3 := ((hB2.alloc _).mono (fun _ _ e => e.elim)).trans hb3
      have HFb3 := hidq (HFb.out.but hbw3 (Ne.symm hib))
      have HFx3 := hidq (HFx.out.but hbw3 (Ne.symm hix))
      have hg3 : (g2 = gi ∨ wr.heap.size ≤ g2) ∧ g2 < w3.heap.size := by
        refine ⟨?_, hF2.lt⟩
        rcases hg2 with e | e
        · exact .inl e
        · rw [World.size_alloc] at e; have := hB2.size; exact .inr (by omega)
      have hgbl := HFb.out.lt
      have hgxl := HFx.out.lt
      have hgil := HFi.out.lt
      clear hF2 hB3 hb3 hBel3 HFi HFb HFx hg2 hB2 hb2 r0 r1
      refine (hOw.out _).mono ?_
      rintro e w4 ⟨rfl, hb4⟩
      have hB4 : But (fun _ => False) w3 w4 := But.of_below hb4
      have hBel5 := hidq (fun (o : Obj) w5 (hb5 : But (fun j => j = w4.heap.size) (w4.alloc o) w5) => (show Below w1.heap.size w1 w5 ∧ But (fun _ => False) w3 w5 from by
        have hbb : But (fun _ => False) w3 w5 := (hB4.alloc o).then hb5 (fun j hj e => by have := hB4.size; omega)
        exact ⟨HB3.out.trans (hbb.below HB3.out.size (fun _ e => e.elim)), hbb⟩))
      go_wp2_with (at_builtin; refine wpList_flat plainI _ rfl (.tmp 39) (.tmp 40) rfl w4.heap.size 1 1 [.float .f64 (nf (K k)), .int .i64 (V k)] rfl (Flat.new w4 [.float .f64 (nf (K k)), .int .i64 (V k)] 29 2 1 rfl (by decide) (fun u hu => by simp at hu; rcases hu with rfl | rfl <;> rfl)) _ rfl k _ ((HFb3.out.but (hB4.alloc _) id).src Try.underlying25) (by omega) ?_; intro g5 c5 w5 hF5 hb5 hg5; obtain ⟨q0, q1⟩ := FR.out w5 (hBel5.out _ w5 hb5).1)
      obtain ⟨hB5, hbb5⟩ := hBel5.out _ w5 hb5
      have hF5' : Flat 2 w5 g5 c5 (k + 1) (flatI (ownL K V (k + 1)).reverse) := by
        rw [ownL_rev]
        have := hF5
        rw [Nat.add_comm 1 k] at this
        exact this
      have HF5 := hidq hF5'
      have HB5 := hidq hB5
      have HFi5 := hidq (show Flat 2 w5 g2 c2 (k + 1) (flatI (ownL K V (k + 1))) from by
        rw [ownL_succ, flatI_append]; exact HF2.out.but hbb5 id)
      have HFx5 := hidq (HFx3.out.but hbb5 id)
      have hg5' : w3.heap.size ≤ g5 ∧ g5 < w5.heap.size := by
        refine ⟨?_, hF5.lt⟩
        rcases hg5 with e | e
        · have := hB4.size; omega
        · rw [World.size_alloc] at e; have := hB4.size; omega
      have hsx : gx < w5.heap.size := HFx5.out.lt
      obtain ⟨g6, c6, w6, hrun, hF6, hb6, hg6⟩ := sl_append plainR 26 (w5.alloc (.cells #[.int .u64 (K k), .int .i64 (V k)] 35)).drew (some ⟨gx, 0, none⟩) cx k _ (.inr ⟨gx, rfl, HFx5.out.but (S := fun _ => False) (((But.refl _ _).alloc _).drew) id⟩) _ 1 _
        (src_two _ Try.underlying26 w5.heap.size (.int .u64 (K k)) (.int .i64 (V k)) (World.cell?_alloc_new _ _ _ 0) (World.cell?_alloc_new _ _ _ 1) rfl rfl) (by omega) (by omega)
      have HRUN := hidq hrun
      have hb6' : But (fun j => j = gx) w5 w6 := ((((But.refl _ w5).alloc _).drew).mono (fun _ _ e => e)).trans (hb6.mono (fun j _ e => by obtain ⟨y, hy, hyj⟩ := e; cases hy; exact hyj.symm))
      have hg6' : g6 = gx ∨ w5.heap.size ≤ g6 := by
        rcases hg6 with ⟨y, hy, hyj⟩ | e
        · cases hy; exact .inl hyj.symm
        · exact .inr (by have : (w5.alloc (.cells #[.int .u64 (K k), .int .i64 (V k)] 35)).drew.heap.size = w5.heap.size + 1 := by simp
                         omega)
      have FIN := hidq (show (Flat 2 w6 g2 c2 (k + 1) (flatI (ownL K V (k + 1))) ∧ Flat 2 w6 g5 c5 (k + 1) (flatI (ownL K V (k + 1)).reverse) ∧ Flat 2 w6 g6 c6 (k + 1) (flatQ K V (k + 1))) ∧ (g2 ≠ g5 ∧ g2 ≠ g6 ∧ g5 ≠ g6) ∧ (w1.heap.size ≤ g2 ∧ w1.heap.size ≤ g5 ∧ w1.heap.size ≤ g6) ∧ Below w1.heap.size w1 w6 from by
        have z1 := HB.out.size
        have z3 := HB3.out.size
        have h35 := hbb5.size
        have hw3 := hbw3.size
        have hg2x : g2 ≠ gx := by rcases hg3.1 with e | e <;> omega
        refine ⟨⟨HFi5.out.but hb6' hg2x, HF5.out.but hb6' (by omega), by rw [flatQ_succ]; exact hF6⟩, ⟨by rcases hg3.1 with e | e <;> omega, ?_, ?_⟩, ⟨by rcases hg3.1 with e | e <;> omega, by omega, by rcases hg6' with e | e <;> omega⟩, HB5.out.trans (hb6'.below HB5.out.size (fun j e => by omega))⟩
        · rcases hg6' with e | e
          · omega
          · omega
        · rcases hg6' with e | e
          · omega
          · omega)
      clear hF5 hF5' hB5 hbb5 hb5 hBel5 hF6 hb6 hb6' hrun hOw hB4 hb4
      go_wp2
      go_region_law (refine step_append rfl (.tmp 42) (.tmp 54) 26 rfl _ _ (by simp [Act.eval]) (by simp [Act.eval]) _ _ HRUN.out ?_)
      all_goals go_wp2
      all_goals go_roundw
      all_goals first
        | (show (_ : Nat) < _; simp [intOf]; omega)
        | (obtain ⟨f1, f2, f3, f4⟩ := FIN.out
           exact ⟨k + 1, g2, c2, g5, c5, g6, c6, by go_num, by omega, ⟨rfl, by first | rfl | rw [Nat.add_comm], rfl⟩, f1, f2, f3, f4⟩)
    · obtain ⟨wl, hwl⟩ : ∃ wl, wl = wr := ⟨_, rfl⟩
      subst hwl
      have hkm : k = min n 40 := by omega
      have hk40 : k ≤ 40 := by omega
      have hkn : k ≤ n := by omega
      have hrng : ∀ i, i < k → 0 ≤ K i ∧ K i < 18446744073709551616 := fun i hi => by
        obtain ⟨_, _, _, _, _, _, h0, h1⟩ := HH.out i (by omega)
        exact ⟨h0, h1⟩
      have hRS := hidq (rsorted_any gx cx k K V wl (hFx.rawAt hrng) (by omega))
      have HFi := hidq hFi
      have HFb := hidq hFb
      have HB := hidq hB
      have hIi := hidq (fun W (hW : But (fun _ => False) wl W) => (hFi.but hW id).items (ownL_length K V k) (fun i => nf (K i)) V (fun i hi => by simp [ownL]) (fun i hi => nf_lt (hrng i hi).2))
      have hIb := hidq (fun W (hW : But (fun _ => False) wl W) => (hFb.but hW id).items (by rw [List.length_reverse, ownL_length]) (fun i => nf (K (k - 1 - i))) (fun i => V (k - 1 - i)) (fun i hi => by simp [ownL]) (fun i hi => nf_lt (hrng _ (by omega)).2))
      have hSi := hidq (fun W (hW : But (fun _ => False) wl W) => sorted_any (some ⟨gi, 0, none⟩) k ci _ _ W (hIi.out W hW) (by omega))
      have hSb := hidq (fun W (hW : But (fun _ => False) wl W) => sorted_any (some ⟨gb, 0, none⟩) k cb _ _ W (hIb.out W hW) (by omega))
      rw [srt_own] at hSi
      rw [srt_back] at hSb
      have hle := hFi.le
      have hrl : (rsrt K V k).length = k := rsrt_length K V k
      have HRL := hidq hrl
      generalize rsrt K V k = RL at *
      clear hFi hFb hFx hrl hIi hIb
      by_cases e : (k : Int) < (n : Int)
      · have hl6 : decide ((k : Int) < 40) = false := decide_eq_false (by omega)
        have hlN : decide (k < 40) = false := decide_eq_false (by omega)
        have HKM := hidq hkm
        clear hkm hB hlt
        go_wp2_with fail
        refine hRS.out.mono ?_
        rintro e w2 ⟨gr, cr, rfl, hgr, hFr, hb2⟩
        have hB2 : But (fun _ => False) wl w2 := But.of_below hb2
        have HFr := hidq hFr
        clear hFr hRS
        go_wp2_with fail
        refine (hSi.out w2 hB2).mono ?_
        rintro e w3 ⟨g3, rfl, hg3, hR3, hb3⟩
        have hB3 : But (fun _ => False) wl w3 := hB2.trans (But.of_below hb3)
        have HR3 := hidq hR3
        clear hR3
        go_wp2_with fail
        refine (hSb.out w3 hB3).mono ?_
        rintro e w4 ⟨g4, rfl, hg4, hR4, hb4⟩
        have hB4 : But (fun _ => False) wl w4 := hB3.trans (But.of_below hb4)
        have HR4 := hidq hR4
        have hBel4 : Below w1.heap.size w1 w4 := HB.out.trans (hB4.below HB.out.size (fun _ e => e.elim))
        have H3 := hidq (HR3.out.but (S := fun _ => False) (But.of_below hb4) id)
        have Hr4 := hidq (HFr.out.but (S := fun _ => False) ((But.of_below hb3).trans (But.of_below hb4)) id)
        have Hi4 := hidq (HFi.out.but hB4 id)
        clear hR4 hSi hSb HR3 HFr HFi HFb hb2 hb3 hB2 hB3 hg3 hg4 hgr hb4
        go_wp2_with fail
        go_loopw [64] (fun s wr => ∃ (j : Nat), s = .int .i64 (j : Int) ∧ j ≤ k ∧ Below w4.heap.size w4 wr) (fun s _ => k - (intOf s).toNat)
        case atStart => exact ⟨0, rfl, Nat.zero_le _, Below.refl _ _⟩
        case round =>
          obtain ⟨j, rfl, hj, hBj⟩ := hrel
          by_cases hlj : j < k
          · have j1 : (j : Int) < (k : Int) := by omega
            obtain ⟨g, off, rfl, hg, hc0, hc1, hK0, hK1⟩ := HH.out j (by omega)
            have j2 : (j : Int) < (n : Int) := by omega
            have hbw : Below w.heap.size w wr := (hB1.trans (hBel4.mono hB1.size)).trans (hBj.mono (by have := hB1.size; have := hBel4.size; omega))
            have r0 := (hbw.cell (p := ⟨g, off + j * 2, none⟩) hg).trans hc0
            have r1 := (hbw.cell (p := ⟨g, off + j * 2 + 1, none⟩) hg).trans hc1
            have hjl : j < (ownL K V k).length := by rw [ownL_length]; exact hlj
            have hoj : (ownL K V k)[j] = (nf (K j), V j) := by simp [ownL]
            have i0 := (hBj.cell (p := ⟨gi, j * 2, none⟩) Hi4.out.lt).trans (Hi4.out.cell _ _ (flatI_get (ownL K V k) j hjl).1)
            have i1 := (hBj.cell (p := ⟨gi, j * 2 + 1, none⟩) Hi4.out.lt).trans (Hi4.out.cell _ _ (flatI_get (ownL K V k) j hjl).2)
            rw [hoj] at i0 i1
            have hOw := hidq (fun W => own_any (K j) (V j) W)
            have hrb := run_bits
            have hfi := fldI_0
            have FC := hidq (fun W (hW : But (fun _ => False) wr W) => (show (W.cell? ⟨g, off + j * 2, none⟩ = some (.int .u64 (K j)) ∧ W.cell? ⟨g, off + j * 2 + 1, none⟩ = some (.int .i64 (V j))) ∧ W.cell? ⟨gi, j * 2, none⟩ = some (.float .f64 (nf (K j))) ∧ W.cell? ⟨gi, j * 2 + 1, none⟩ = some (.int .i64 (V j)) from
              ⟨⟨(hW.cell (p := ⟨g, off + j * 2, none⟩) (by show g < _; have := hbw.size; omega) id).trans r0, (hW.cell (p := ⟨g, off + j * 2 + 1, none⟩) (by show g < _; have := hbw.size; omega) id).trans r1⟩, (hW.cell (p := ⟨gi, j * 2, none⟩) (by show gi < _; have := Hi4.out.lt; have := hBj.size; omega) id).trans i0, (hW.cell (p := ⟨gi, j * 2 + 1, none⟩) (by show gi < _; have := Hi4.out.lt; have := hBj.size; omega) id).trans i1⟩))
            clear hc0 hc1 hoj HH H3 Hr4 HR4 HRL Hi4 hbw hBel4 F0 hbW hsB li lb lx hib hix hbx hkn hk40 hrng HKM HB hjl hK0 hK1 hg hsf hB4 hB1 hb1
            go_wp2
            have hrefl : ∀ w : World, Reg.Keeps w w := Reg.Keeps.refl
            refine Reg.wp_region_props (Reg.ofList (sorts16R n cap k ci gi g off j K V)) Reg.Keeps (fun _ w => Reg.Keeps wr w) (by kernel_rfl) (by kernel_rfl) (Reg.AllKept.at _ (sorts16R_kept n cap k ci gi g off j K V)) hrefl ((Reg.Keeps.refl _).drewN 1) ⟨?_, ?_, ?_, ?_, ?_, ?_, ?_, ?_, ?_, ?_, ?_, ?_, ?_, ?_, ?_, ?_, ?_, ?_, ?_, ?_, ?_, ?_, ?_, ?_, ?_, ?_, ?_, trivial⟩ ?_
            · refine Reg.StepAt.plain (i := 0) rfl ?_
              intro L ev w hI hk hp hA
              have e3 : ev (.tmp 3) = .slice (some ⟨gi, 0, none⟩) k ci := hA.oldNone 3 (by kernel_rfl)
              have hcc := hA.const
              clear hA hp
              refine Reg.out_value (v := .slice (some ⟨gi, 0, none⟩) k ci) ?_ ⟨rfl, hrefl _, hI⟩
              go_simp
            · refine Reg.StepAt.plain (i := 1) rfl ?_
              intro L ev w hI hk hp hA
              have e10 : ev (.tmp 10) = .int .i64 (j : Int) := hA.oldNone 10 (by kernel_rfl)
              have hcc := hA.const
              clear hA hp
              refine Reg.out_value (v := .int .i64 (j : Int)) ?_ ⟨rfl, hrefl _, hI⟩
              go_simp
            · refine Reg.StepAt.plain (i := 2) rfl ?_
              intro L ev w hI hk hp hA
              have e67 : ev (.tmp 67) = .slice (some ⟨gi, 0, none⟩) k ci := hA.val 0 _ 67 rfl (hp ⟨0, .data⟩ (by simp) rfl) rfl
              have e68 : ev (.tmp 68) = .int .i64 (j : Int) := hA.val 1 _ 68 rfl (hp ⟨1, .data⟩ (by simp) rfl) rfl
              have hcc := hA.const
              clear hA hp
              refine Reg.out_value (v := .pointer (some ⟨gi, j * 2, none⟩)) ?_ ⟨rfl, hrefl _, hI⟩
              go_simp
            · refine Reg.StepAt.plain (i := 3) rfl ?_
              intro L ev w hI hk hp hA
              have e69 : ev (.tmp 69) = .pointer (some ⟨gi, j * 2, none⟩) := hA.val 2 _ 69 rfl (hp ⟨2, .data⟩ (by simp) rfl) rfl
              have hcc := hA.const
              clear hA hp
              refine Reg.out_value (v := .pointer (some ⟨gi, j * 2, none⟩)) ?_ ⟨rfl, hrefl _, hI⟩
              go_simp
            · refine Reg.StepAt.plain (i := 4) rfl ?_
              intro L ev w hI hk hp hA
              have e70 : ev (.tmp 70) = .pointer (some ⟨gi, j * 2, none⟩) := hA.val 3 _ 70 rfl (hp ⟨3, .data⟩ (by simp) rfl) rfl
              have hcc := hA.const
              clear hA hp
              obtain ⟨⟨f1, f2⟩, f3, f4⟩ := FC.out w (But.of_below hI)
              refine Reg.out_value (v := .float .f64 (nf (K j))) ?_ ⟨rfl, hrefl _, hI⟩
              go_simp
            · refine Reg.StepAt.plain (i := 5) rfl ?_
              intro L ev w hI hk hp hA
              have e71 : ev (.tmp 71) = .float .f64 (nf (K j)) := hA.val 4 _ 71 rfl (hp ⟨4, .data⟩ (by simp) rfl) rfl
              have hcc := hA.const
              have hcf := hA.func
              clear hA hp
              refine Reg.out_value (v := .int .u64 (ni (nf (K j)))) ?_ ⟨rfl, hrefl _, hI⟩
              go_simp
            · refine Reg.StepAt.plain (i := 6) rfl ?_
              intro L ev w hI hk hp hA
              have e0 : ev (.tmp 0) = .slice (some ⟨g, off, none⟩) n cap := hA.oldNone 0 (by kernel_rfl)
              have hcc := hA.const
              clear hA hp
              refine Reg.out_value (v := .slice (some ⟨g, off, none⟩) n cap) ?_ ⟨rfl, hrefl _, hI⟩
              go_simp
            · refine Reg.StepAt.plain (i := 7) rfl ?_
              intro L ev w hI hk hp hA
              have e10 : ev (.tmp 10) = .int .i64 (j : Int) := hA.oldNone 10 (by kernel_rfl)
              have hcc := hA.const
              clear hA hp
              refine Reg.out_value (v := .int .i64 (j : Int)) ?_ ⟨rfl, hrefl _, hI⟩
              go_simp
            · refine Reg.StepAt.plain (i := 8) rfl ?_
              intro L ev w hI hk hp hA
              have e73 : ev (.tmp 73) = .slice (some ⟨g, off, none⟩) n cap := hA.val 6 _ 73 rfl (hp ⟨6, .data⟩ (by simp) rfl) rfl
              have e74 : ev (.tmp 74) = .int .i64 (j : Int) := hA.val 7 _ 74 rfl (hp ⟨7, .data⟩ (by simp) rfl) rfl
              have hcc := hA.const
              clear hA hp
              refine Reg.out_value (v := .pointer (some ⟨g, off + j * 2, none⟩)) ?_ ⟨rfl, hrefl _, hI⟩
              go_simp
            · refine Reg.StepAt.plain (i := 9) rfl ?_
              intro L ev w hI hk hp hA
              have e75 : ev (.tmp 75) = .pointer (some ⟨g, off + j * 2, none⟩) := hA.val 8 _ 75 rfl (hp ⟨8, .data⟩ (by simp) rfl) rfl
              have hcc := hA.const
              clear hA hp
              obtain ⟨⟨f1, f2⟩, f3, f4⟩ := FC.out w (But.of_below hI)
              refine Reg.out_value (v := .agg #[.int .u64 (K j), .int .i64 (V j)]) ?_ ⟨rfl, hrefl _, hI⟩
              go_simp
            · refine Reg.StepAt.plain (i := 10) rfl ?_
              intro L ev w hI hk hp hA
              have e76 : ev (.tmp 76) = .agg #[.int .u64 (K j), .int .i64 (V j)] := hA.val 9 _ 76 rfl (hp ⟨9, .data⟩ (by simp) rfl) rfl
              have hcc := hA.const
              have hcf := hA.func
              clear hA hp
              refine Reg.out_call (f := 12) (args := #[.agg #[.int .u64 (K j), .int .i64 (V j)]]) (w0 := w) ?_ ?_
              · go_simp
              refine (hOw.out w).mono ?_
              rintro e w' ⟨rfl, hb'⟩
              exact ⟨_, rfl, rfl, hb', Reg.Keeps.trans hI hb'⟩
            · refine Reg.StepAt.plain (i := 11) rfl ?_
              intro L ev w hI hk hp hA
              have e77 : ev (.tmp 77) = .agg #[.float .f64 (nf (K j)), .int .i64 (V j)] := hA.val 10 _ 77 rfl (hp ⟨10, .data⟩ (by simp) rfl) rfl
              have hcc := hA.const
              clear hA hp
              refine Reg.out_value (v := .float .f64 (nf (K j))) ?_ ⟨rfl, hrefl _, hI⟩
              go_simp
            · refine Reg.StepAt.plain (i := 12) rfl ?_
              intro L ev w hI hk hp hA
              have e78 : ev (.tmp 78) = .float .f64 (nf (K j)) := hA.val 11 _ 78 rfl (hp ⟨11, .data⟩ (by simp) rfl) rfl
              have hcc := hA.const
              have hcf := hA.func
              clear hA hp
              refine Reg.out_value (v := .int .u64 (ni (nf (K j)))) ?_ ⟨rfl, hrefl _, hI⟩
              go_simp
            · refine Reg.StepAt.plain (i := 13) rfl ?_
              intro L ev w hI hk hp hA
              have e72 : ev (.tmp 72) = .int .u64 (ni (nf (K j))) := hA.val 5 _ 72 rfl (hp ⟨5, .data⟩ (by simp) rfl) rfl
              have e79 : ev (.tmp 79) = .int .u64 (ni (nf (K j))) := hA.val 12 _ 79 rfl (hp ⟨12, .data⟩ (by simp) rfl) rfl
              have hcc := hA.const
              clear hA hp
              refine Reg.out_value (v := .bool false) ?_ ⟨rfl, hrefl _, hI⟩
              go_simp
            · refine Reg.StepAt.plain (i := 14) rfl ?_
              intro L ev w hI hk hp hA
              have e80 : ev (.tmp 80) = .bool false := hA.val 13 _ 80 rfl (hp ⟨13, .data⟩ (by simp) rfl) rfl
              have hcc := hA.const
              clear hA hp
              refine Reg.out_value (v := .bool false) ?_ ⟨rfl, hrefl _, hI⟩
              go_simp
            · refine Reg.StepAt.guarded (i := 15) rfl ?_
              intro L ev w hI hk hp hA
              have e3 : ev (.tmp 3) = .slice (some ⟨gi, 0, none⟩) k ci := hA.oldNone 3 (by kernel_rfl)
              have eg : ev (.tmp 81) = .bool false := hA.val 14 _ 81 rfl (hp ⟨14, .guard⟩ (by simp) rfl) rfl
              refine ⟨_, 81, false, rfl, rfl, eg, ?_⟩
              rw [if_pos rfl]
              have hcc := hA.const
              clear hA hp
              refine Reg.out_value (v := .slice (some ⟨gi, 0, none⟩) k ci) ?_ ⟨rfl, hrefl _, hI⟩
              go_simp
            · refine Reg.StepAt.guarded (i := 16) rfl ?_
              intro L ev w hI hk hp hA
              have e10 : ev (.tmp 10) = .int .i64 (j : Int) := hA.oldNone 10 (by kernel_rfl)
              have eg : ev (.tmp 81) = .bool false := hA.val 14 _ 81 rfl (hp ⟨14, .guard⟩ (by simp) rfl) rfl
              refine ⟨_, 81, false, rfl, rfl, eg, ?_⟩
              rw [if_pos rfl]
              have hcc := hA.const
              clear hA hp
              refine Reg.out_value (v := .int .i64 (j : Int)) ?_ ⟨rfl, hrefl _, hI⟩
              go_simp
            · refine Reg.StepAt.guarded (i := 17) rfl ?_
              intro L ev w hI hk hp hA
              have e82 : ev (.tmp 82) = .slice (some ⟨gi, 0, none⟩) k ci := hA.val 15 _ 82 rfl (hp ⟨15, .data⟩ (by simp) rfl) rfl
              have e83 : ev (.tmp 83) = .int .i64 (j : Int) := hA.val 16 _ 83 rfl (hp ⟨16, .data⟩ (by simp) rfl) rfl
              have eg : ev (.tmp 81) = .bool false := hA.val 14 _ 81 rfl (hp ⟨14, .guard⟩ (by simp) rfl) rfl
              refine ⟨_, 81, false, rfl, rfl, eg, ?_⟩
              rw [if_pos rfl]
              have hcc := hA.const
              clear hA hp
              refine Reg.out_value (v := .pointer (some ⟨gi, j * 2, none⟩)) ?_ ⟨rfl, hrefl _, hI⟩
              go_simp
            · refine Reg.StepAt.guarded (i := 18) rfl ?_
              intro L ev w hI hk hp hA
              have e84 : ev (.tmp 84) = .pointer (some ⟨gi, j * 2, none⟩) := hA.val 17 _ 84 rfl (hp ⟨17, .data⟩ (by simp) rfl) rfl
              have eg : ev (.tmp 81) = .bool false := hA.val 14 _ 81 rfl (hp ⟨14, .guard⟩ (by simp) rfl) rfl
              refine ⟨_, 81, false, rfl, rfl, eg, ?_⟩
              rw [if_pos rfl]
              have hcc := hA.const
              clear hA hp
              refine Reg.out_value (v := .pointer (some ⟨gi, j * 2 + 1, none⟩)) ?_ ⟨rfl, hrefl _, hI⟩
              go_simp
            · refine Reg.StepAt.guarded (i := 19) rfl ?_
              intro L ev w hI hk hp hA
              have e85 : ev (.tmp 85) = .pointer (some ⟨gi, j * 2 + 1, none⟩) := hA.val 18 _ 85 rfl (hp ⟨18, .data⟩ (by simp) rfl) rfl
              have eg : ev (.tmp 81) = .bool false := hA.val 14 _ 81 rfl (hp ⟨14, .guard⟩ (by simp) rfl) rfl
              refine ⟨_, 81, false, rfl, rfl, eg, ?_⟩
              rw [if_pos rfl]
              have hcc := hA.const
              clear hA hp
              obtain ⟨⟨f1, f2⟩, f3, f4⟩ := FC.out w (But.of_below hI)
              refine Reg.out_value (v := .int .i64 (V j)) ?_ ⟨rfl, hrefl _, hI⟩
              go_simp
            · refine Reg.StepAt.guarded (i := 20) rfl ?_
              intro L ev w hI hk hp hA
              have e0 : ev (.tmp 0) = .slice (some ⟨g, off, none⟩) n cap := hA.oldNone 0 (by kernel_rfl)
              have eg : ev (.tmp 81) = .bool false := hA.val 14 _ 81 rfl (hp ⟨14, .guard⟩ (by simp) rfl) rfl
              refine ⟨_, 81, false, rfl, rfl, eg, ?_⟩
              rw [if_pos rfl]
              have hcc := hA.const
              clear hA hp
              refine Reg.out_value (v := .slice (some ⟨g, off, none⟩) n cap) ?_ ⟨rfl, hrefl _, hI⟩
              go_simp
            · refine Reg.StepAt.guarded (i := 21) rfl ?_
              intro L ev w hI hk hp hA
              have e10 : ev (.tmp 10) = .int .i64 (j : Int) := hA.oldNone 10 (by kernel_rfl)
              have eg : ev (.tmp 81) = .bool false := hA.val 14 _ 81 rfl (hp ⟨14, .guard⟩ (by simp) rfl) rfl
              refine ⟨_, 81, false, rfl, rfl, eg, ?_⟩
              rw [if_pos rfl]
              have hcc := hA.const
              clear hA hp
              refine Reg.out_value (v := .int .i64 (j : Int)) ?_ ⟨rfl, hrefl _, hI⟩
              go_simp
            · refine Reg.StepAt.guarded (i := 22) rfl ?_
              intro L ev w hI hk hp hA
              have e87 : ev (.tmp 87) = .slice (some ⟨g, off, none⟩) n cap := hA.val 20 _ 87 rfl (hp ⟨20, .data⟩ (by simp) rfl) rfl
              have e88 : ev (.tmp 88) = .int .i64 (j : Int) := hA.val 21 _ 88 rfl (hp ⟨21, .data⟩ (by simp) rfl) rfl
              have eg : ev (.tmp 81) = .bool false := hA.val 14 _ 81 rfl (hp ⟨14, .guard⟩ (by simp) rfl) rfl
              refine ⟨_, 81, false, rfl, rfl, eg, ?_⟩
              rw [if_pos rfl]
              have hcc := hA.const
              clear hA hp
              refine Reg.out_value (v := .pointer (some ⟨g, off + j * 2, none⟩)) ?_ ⟨rfl, hrefl _, hI⟩
              go_simp
            · refine Reg.StepAt.guarded (i := 23) rfl ?_
              intro L ev w hI hk hp hA
              have e89 : ev (.tmp 89) = .pointer (some ⟨g, off + j * 2, none⟩) := hA.val 22 _ 89 rfl (hp ⟨22, .data⟩ (by simp) rfl) rfl
              have eg : ev (.tmp 81) = .bool false := hA.val 14 _ 81 rfl (hp ⟨14, .guard⟩ (by simp) rfl) rfl
              refine ⟨_, 81, false, rfl, rfl, eg, ?_⟩
              rw [if_pos rfl]
              have hcc := hA.const
              clear hA hp
              refine Reg.out_value (v := .pointer (some ⟨g, off + j * 2 + 1, none⟩)) ?_ ⟨rfl, hrefl _, hI⟩
              go_simp
            · refine Reg.StepAt.guarded (i := 24) rfl ?_
              intro L ev w hI hk hp hA
              have e90 : ev (.tmp 90) = .pointer (some ⟨g, off + j * 2 + 1, none⟩) := hA.val 23 _ 90 rfl (hp ⟨23, .data⟩ (by simp) rfl) rfl
              have eg : ev (.tmp 81) = .bool false := hA.val 14 _ 81 rfl (hp ⟨14, .guard⟩ (by simp) rfl) rfl
              refine ⟨_, 81, false, rfl, rfl, eg, ?_⟩
              rw [if_pos rfl]
              have hcc := hA.const
              clear hA hp
              obtain ⟨⟨f1, f2⟩, f3, f4⟩ := FC.out w (But.of_below hI)
              refine Reg.out_value (v := .int .i64 (V j)) ?_ ⟨rfl, hrefl _, hI⟩
              go_simp
            · refine Reg.StepAt.guarded (i := 25) rfl ?_
              intro L ev w hI hk hp hA
              have e86 : ev (.tmp 86) = .int .i64 (V j) := hA.val 19 _ 86 rfl (hp ⟨19, .data⟩ (by simp) rfl) rfl
              have e91 : ev (.tmp 91) = .int .i64 (V j) := hA.val 24 _ 91 rfl (hp ⟨24, .data⟩ (by simp) rfl) rfl
              have eg : ev (.tmp 81) = .bool false := hA.val 14 _ 81 rfl (hp ⟨14, .guard⟩ (by simp) rfl) rfl
              refine ⟨_, 81, false, rfl, rfl, eg, ?_⟩
              rw [if_pos rfl]
              have hcc := hA.const
              clear hA hp
              refine Reg.out_value (v := .bool false) ?_ ⟨rfl, hrefl _, hI⟩
              go_simp
            · refine Reg.StepAt.plain (i := 26) rfl ?_
              intro L ev w hI hk hp hA
              have e81 : ev (.tmp 81) = .bool false := hA.val 14 _ 81 rfl (hp ⟨14, .data⟩ (by simp) rfl) rfl
              have e92 : ev (.tmp 92) = .bool false := hA.val 25 _ 92 rfl (hp ⟨25, .data⟩ (by simp) rfl) rfl
              have hcc := hA.const
              clear hA hp
              refine Reg.out_value (v := .bool false) ?_ ⟨rfl, hrefl _, hI⟩
              go_simp
            intro L act w5 hall hI hF
            have g67 : act.eval (.tmp 67) = .slice (some ⟨gi, 0, none⟩) k ci := hF.val 0 _ 67 rfl (hall 0 (by simp)) rfl
            have g68 : act.eval (.tmp 68) = .int .i64 (j : Int) := hF.val 1 _ 68 rfl (hall 1 (by simp)) rfl
            have g69 : act.eval (.tmp 69) = .pointer (some ⟨gi, j * 2, none⟩) := hF.val 2 _ 69 rfl (hall 2 (by simp)) rfl
            have g70 : act.eval (.tmp 70) = .pointer (some ⟨gi, j * 2, none⟩) := hF.val 3 _ 70 rfl (hall 3 (by simp)) rfl
            have g71 : act.eval (.tmp 71) = .float .f64 (nf (K j)) := hF.val 4 _ 71 rfl (hall 4 (by simp)) rfl
            have g72 : act.eval (.tmp 72) = .int .u64 (ni (nf (K j))) := hF.val 5 _ 72 rfl (hall 5 (by simp)) rfl
            have g73 : act.eval (.tmp 73) = .slice (some ⟨g, off, none⟩) n cap := hF.val 6 _ 73 rfl (hall 6 (by simp)) rfl
            have g74 : act.eval (.tmp 74) = .int .i64 (j : Int) := hF.val 7 _ 74 rfl (hall 7 (by simp)) rfl
            have g75 : act.eval (.tmp 75) = .pointer (some ⟨g, off + j * 2, none⟩) := hF.val 8 _ 75 rfl (hall 8 (by simp)) rfl
            have g76 : act.eval (.tmp 76) = .agg #[.int .u64 (K j), .int .i64 (V j)] := hF.val 9 _ 76 rfl (hall 9 (by simp)) rfl
            have g77 : act.eval (.tmp 77) = .agg #[.float .f64 (nf (K j)), .int .i64 (V j)] := hF.val 10 _ 77 rfl (hall 10 (by simp)) rfl
            have g78 : act.eval (.tmp 78) = .float .f64 (nf (K j)) := hF.val 11 _ 78 rfl (hall 11 (by simp)) rfl
            have g79 : act.eval (.tmp 79) = .int .u64 (ni (nf (K j))) := hF.val 12 _ 79 rfl (hall 12 (by simp)) rfl
            have g80 : act.eval (.tmp 80) = .bool false := hF.val 13 _ 80 rfl (hall 13 (by simp)) rfl
            have g81 : act.eval (.tmp 81) = .bool false := hF.val 14 _ 81 rfl (hall 14 (by simp)) rfl
            have g82 : act.eval (.tmp 82) = .slice (some ⟨gi, 0, none⟩) k ci := hF.val 15 _ 82 rfl (hall 15 (by simp)) rfl
            have g83 : act.eval (.tmp 83) = .int .i64 (j : Int) := hF.val 16 _ 83 rfl (hall 16 (by simp)) rfl
            have g84 : act.eval (.tmp 84) = .pointer (some ⟨gi, j * 2, none⟩) := hF.val 17 _ 84 rfl (hall 17 (by simp)) rfl
            have g85 : act.eval (.tmp 85) = .pointer (some ⟨gi, j * 2 + 1, none⟩) := hF.val 18 _ 85 rfl (hall 18 (by simp)) rfl
            have g86 : act.eval (.tmp 86) = .int .i64 (V j) := hF.val 19 _ 86 rfl (hall 19 (by simp)) rfl
            have g87 : act.eval (.tmp 87) = .slice (some ⟨g, off, none⟩) n cap := hF.val 20 _ 87 rfl (hall 20 (by simp)) rfl
            have g88 : act.eval (.tmp 88) = .int .i64 (j : Int) := hF.val 21 _ 88 rfl (hall 21 (by simp)) rfl
            have g89 : act.eval (.tmp 89) = .pointer (some ⟨g, off + j * 2, none⟩) := hF.val 22 _ 89 rfl (hall 22 (by simp)) rfl
            have g90 : act.eval (.tmp 90) = .pointer (some ⟨g, off + j * 2 + 1, none⟩) := hF.val 23 _ 90 rfl (hall 23 (by simp)) rfl
            have g91 : act.eval (.tmp 91) = .int .i64 (V j) := hF.val 24 _ 91 rfl (hall 24 (by simp)) rfl
            have g92 : act.eval (.tmp 92) = .bool false := hF.val 25 _ 92 rfl (hall 25 (by simp)) rfl
            have g93 : act.eval (.tmp 93) = .bool false := hF.val 26 _ 93 rfl (hall 26 (by simp)) rfl
            have hact := hF.act [67, 68, 69, 70, 71, 72, 73, 74, 75, 76, 77, 78, 79, 80, 81, 82, 83, 84, 85, 86, 87, 88, 89, 90, 91, 92, 93] (by kernel_rfl)
            clear hF hall
            simp only [List.foldl_cons, List.foldl_nil] at hact
            rw [g67, g68, g69, g70, g71, g72, g73, g74, g75, g76, g77, g78, g79, g80, g81, g82, g83, g84, g85, g86, g87, g88, g89, g90, g91, g92, g93] at hact
            clear g67 g68 g69 g70 g71 g72 g73 g74 g75 g76 g77 g78 g79 g80 g81 g82 g83 g84 g85 g86 g87 g88 g89 g90 g91 g92 g93
            simp only [List.setIfInBounds_toArray, List.set_cons_succ, List.set_cons_zero] at hact
            subst hact
            go_wp2
            go_roundw
            all_goals first
              | (show (_ : Nat) < _; simp [intOf]; omega)
              | (exact ⟨j + 1, by go_num, by omega, hBj.trans (hI.mono hBj.size)⟩)
          · have hdj : decide ((j : Int) < (k : Int)) = false := decide_eq_false (by omega)
            have hdn : decide (j < k) = false := decide_eq_false hlj
            have hA1 := hidq (are_any g3 k gr cr k RL wr (H3.out.but (S := fun _ => False) (But.of_below hBj) id) (Hr4.out.but (S := fun _ => False) (But.of_below hBj) id) HRL.out)
            have hA2 := hidq (fun W (hW : But (fun _ => False) wr W) => are_any g4 k gr cr k RL W (HR4.out.but (S := fun _ => False) ((But.of_below hBj).trans hW) id) (Hr4.out.but (S := fun _ => False) ((But.of_below hBj).trans hW) id) HRL.out)
            go_wp2_with fail
            refine hA1.out.mono ?_
            rintro e w5 ⟨rfl, hb5⟩
            go_wp2_with fail
            refine (hA2.out w5 (But.of_below hb5)).mono ?_
            rintro e w6 ⟨rfl, hb6⟩
            go_wp2
            go_ret
            exact ⟨rfl, (((hB1.trans (hBel4.mono hB1.size)).trans (hBj.mono (by have := hB1.size; have := hBel4.size; omega))).trans (hb5.mono (by have := hB1.size; have := hBel4.size; have := hBj.size; omega))).trans (hb6.mono (by have := hB1.size; have := hBel4.size; have := hBj.size; have := hb5.size; omega))⟩
      · have hl6 : decide ((k : Int) < (n : Int)) = false := decide_eq_false e
        have HKM := hidq hkm
        clear hkm hB hlt
        go_wp2_with fail
        refine hRS.out.mono ?_
        rintro e w2 ⟨gr, cr, rfl, hgr, hFr, hb2⟩
        have hB2 : But (fun _ => False) wl w2 := But.of_below hb2
        have HFr := hidq hFr
        clear hFr hRS
        go_wp2_with fail
        refine (hSi.out w2 hB2).mono ?_
        rintro e w3 ⟨g3, rfl, hg3, hR3, hb3⟩
        have hB3 : But (fun _ => False) wl w3 := hB2.trans (But.of_below hb3)
        have HR3 := hidq hR3
        clear hR3
        go_wp2_with fail
        refine (hSb.out w3 hB3).mono ?_
        rintro e w4 ⟨g4, rfl, hg4, hR4, hb4⟩
        have hB4 : But (fun _ => False) wl w4 := hB3.trans (But.of_below hb4)
        have HR4 := hidq hR4
        have hBel4 : Below w1.heap.size w1 w4 := HB.out.trans (hB4.below HB.out.size (fun _ e => e.elim))
        have H3 := hidq (HR3.out.but (S := fun _ => False) (But.of_below hb4) id)
        have Hr4 := hidq (HFr.out.but (S := fun _ => False) ((But.of_below hb3).trans (But.of_below hb4)) id)
        have Hi4 := hidq (HFi.out.but hB4 id)
        clear hR4 hSi hSb HR3 HFr HFi HFb hb2 hb3 hB2 hB3 hg3 hg4 hgr hb4
        go_wp2_with fail
        go_loopw [64] (fun s wr => ∃ (j : Nat), s = .int .i64 (j : Int) ∧ j ≤ k ∧ Below w4.heap.size w4 wr) (fun s _ => k - (intOf s).toNat)
        case atStart => exact ⟨0, rfl, Nat.zero_le _, Below.refl _ _⟩
        case round =>
          obtain ⟨j, rfl, hj, hBj⟩ := hrel
          by_cases hlj : j < k
          · have j1 : (j : Int) < (k : Int) := by omega
            obtain ⟨g, off, rfl, hg, hc0, hc1, hK0, hK1⟩ := HH.out j (by omega)
            have j2 : (j : Int) < (n : Int) := by omega
            have hbw : Below w.heap.size w wr := (hB1.trans (hBel4.mono hB1.size)).trans (hBj.mono (by have := hB1.size; have := hBel4.size; omega))
            have r0 := (hbw.cell (p := ⟨g, off + j * 2, none⟩) hg).trans hc0
            have r1 := (hbw.cell (p := ⟨g, off + j * 2 + 1, none⟩) hg).trans hc1
            have hjl : j < (ownL K V k).length := by rw [ownL_length]; exact hlj
            have hoj : (ownL K V k)[j] = (nf (K j), V j) := by simp [ownL]
            have i0 := (hBj.cell (p := ⟨gi, j * 2, none⟩) Hi4.out.lt).trans (Hi4.out.cell _ _ (flatI_get (ownL K V k) j hjl).1)
            have i1 := (hBj.cell (p := ⟨gi, j * 2 + 1, none⟩) Hi4.out.lt).trans (Hi4.out.cell _ _ (flatI_get (ownL K V k) j hjl).2)
            rw [hoj] at i0 i1
            have hOw := hidq (fun W => own_any (K j) (V j) W)
            have hrb := run_bits
            have hfi := fldI_0
            have FC := hidq (fun W (hW : But (fun _ => False) wr W) => (show (W.cell? ⟨g, off + j * 2, none⟩ = some (.int .u64 (K j)) ∧ W.cell? ⟨g, off + j * 2 + 1, none⟩ = some (.int .i64 (V j))) ∧ W.cell? ⟨gi, j * 2, none⟩ = some (.float .f64 (nf (K j))) ∧ W.cell? ⟨gi, j * 2 + 1, none⟩ = some (.int .i64 (V j)) from
              ⟨⟨(hW.cell (p := ⟨g, off + j * 2, none⟩) (by show g < _; have := hbw.size; omega) id).trans r0, (hW.cell (p := ⟨g, off + j * 2 + 1, none⟩) (by show g < _; have := hbw.size; omega) id).trans r1⟩, (hW.cell (p := ⟨gi, j * 2, none⟩) (by show gi < _; have := Hi4.out.lt; have := hBj.size; omega) id).trans i0, (hW.cell (p := ⟨gi, j * 2 + 1, none⟩) (by show gi < _; have := Hi4.out.lt; have := hBj.size; omega) id).trans i1⟩))
            clear hc0 hc1 hoj HH H3 Hr4 HR4 HRL Hi4 hbw hBel4 F0 hbW hsB li lb lx hib hix hbx hkn hk40 hrng HKM HB hjl hK0 hK1 hg hsf hB4 hB1 hb1
            go_wp2
            have hrefl : ∀ w : World, Reg.Keeps w w := Reg.Keeps.refl
            refine Reg.wp_region_props (Reg.ofList (sorts16R n cap k ci gi g off j K V)) Reg.Keeps (fun _ w => Reg.Keeps wr w) (by kernel_rfl) (by kernel_rfl) (Reg.AllKept.at _ (sorts16R_kept n cap k ci gi g off j K V)) hrefl ((Reg.Keeps.refl _).drewN 1) ⟨?_, ?_, ?_, ?_, ?_, ?_, ?_, ?_, ?_, ?_, ?_, ?_, ?_, ?_, ?_, ?_, ?_, ?_, ?_, ?_, ?_, ?_, ?_, ?_, ?_, ?_, ?_, trivial⟩ ?_
            · refine Reg.StepAt.plain (i := 0) rfl ?_
              intro L ev w hI hk hp hA
              have e3 : ev (.tmp 3) = .slice (some ⟨gi, 0, none⟩) k ci := hA.oldNone 3 (by kernel_rfl)
              have hcc := hA.const
              clear hA hp
              refine Reg.out_value (v := .slice (some ⟨gi, 0, none⟩) k ci) ?_ ⟨rfl, hrefl _, hI⟩
              go_simp
            · refine Reg.StepAt.plain (i := 1) rfl ?_
              intro L ev w hI hk hp hA
              have e10 : ev (.tmp 10) = .int .i64 (j : Int) := hA.oldNone 10 (by kernel_rfl)
              have hcc := hA.const
              clear hA hp
              refine Reg.out_value (v := .int .i64 (j : Int)) ?_ ⟨rfl, hrefl _, hI⟩
              go_simp
            · refine Reg.StepAt.plain (i := 2) rfl ?_
              intro L ev w hI hk hp hA
              have e67 : ev (.tmp 67) = .slice (some ⟨gi, 0, none⟩) k ci := hA.val 0 _ 67 rfl (hp ⟨0, .data⟩ (by simp) rfl) rfl
              have e68 : ev (.tmp 68) = .int .i64 (j : Int) := hA.val 1 _ 68 rfl (hp ⟨1, .data⟩ (by simp) rfl) rfl
              have hcc := hA.const
              clear hA hp
              refine Reg.out_value (v := .pointer (some ⟨gi, j * 2, none⟩)) ?_ ⟨rfl, hrefl _, hI⟩
              go_simp
            · refine Reg.StepAt.plain (i := 3) rfl ?_
              intro L ev w hI hk hp hA
              have e69 : ev (.tmp 69) = .pointer (some ⟨gi, j * 2, none⟩) := hA.val 2 _ 69 rfl (hp ⟨2, .data⟩ (by simp) rfl) rfl
              have hcc := hA.const
              clear hA hp
              refine Reg.out_value (v := .pointer (some ⟨gi, j * 2, none⟩)) ?_ ⟨rfl, hrefl _, hI⟩
              go_simp
            · refine Reg.StepAt.plain (i := 4) rfl ?_
              intro L ev w hI hk hp hA
              have e70 : ev (.tmp 70) = .pointer (some ⟨gi, j * 2, none⟩) := hA.val 3 _ 70 rfl (hp ⟨3, .data⟩ (by simp) rfl) rfl
              have hcc := hA.const
              clear hA hp
              obtain ⟨⟨f1, f2⟩, f3, f4⟩ := FC.out w (But.of_below hI)
              refine Reg.out_value (v := .float .f64 (nf (K j))) ?_ ⟨rfl, hrefl _, hI⟩
              go_simp
            · refine Reg.StepAt.plain (i := 5) rfl ?_
              intro L ev w hI hk hp hA
              have e71 : ev (.tmp 71) = .float .f64 (nf (K j)) := hA.val 4 _ 71 rfl (hp ⟨4, .data⟩ (by simp) rfl) rfl
              have hcc := hA.const
              have hcf := hA.func
              clear hA hp
              refine Reg.out_value (v := .int .u64 (ni (nf (K j)))) ?_ ⟨rfl, hrefl _, hI⟩
              go_simp
            · refine Reg.StepAt.plain (i := 6) rfl ?_
              intro L ev w hI hk hp hA
              have e0 : ev (.tmp 0) = .slice (some ⟨g, off, none⟩) n cap := hA.oldNone 0 (by kernel_rfl)
              have hcc := hA.const
              clear hA hp
              refine Reg.out_value (v := .slice (some ⟨g, off, none⟩) n cap) ?_ ⟨rfl, hrefl _, hI⟩
              go_simp
            · refine Reg.StepAt.plain (i := 7) rfl ?_
              intro L ev w hI hk hp hA
              have e10 : ev (.tmp 10) = .int .i64 (j : Int) := hA.oldNone 10 (by kernel_rfl)
              have hcc := hA.const
              clear hA hp
              refine Reg.out_value (v := .int .i64 (j : Int)) ?_ ⟨rfl, hrefl _, hI⟩
              go_simp
            · refine Reg.StepAt.plain (i := 8) rfl ?_
              intro L ev w hI hk hp hA
              have e73 : ev (.tmp 73) = .slice (some ⟨g, off, none⟩) n cap := hA.val 6 _ 73 rfl (hp ⟨6, .data⟩ (by simp) rfl) rfl
              have e74 : ev (.tmp 74) = .int .i64 (j : Int) := hA.val 7 _ 74 rfl (hp ⟨7, .data⟩ (by simp) rfl) rfl
              have hcc := hA.const
              clear hA hp
              refine Reg.out_value (v := .pointer (some ⟨g, off + j * 2, none⟩)) ?_ ⟨rfl, hrefl _, hI⟩
              go_simp
            · refine Reg.StepAt.plain (i := 9) rfl ?_
              intro L ev w hI hk hp hA
              have e75 : ev (.tmp 75) = .pointer (some ⟨g, off + j * 2, none⟩) := hA.val 8 _ 75 rfl (hp ⟨8, .data⟩ (by simp) rfl) rfl
              have hcc := hA.const
              clear hA hp
              obtain ⟨⟨f1, f2⟩, f3, f4⟩ := FC.out w (But.of_below hI)
              refine Reg.out_value (v := .agg #[.int .u64 (K j), .int .i64 (V j)]) ?_ ⟨rfl, hrefl _, hI⟩
              go_simp
            · refine Reg.StepAt.plain (i := 10) rfl ?_
              intro L ev w hI hk hp hA
              have e76 : ev (.tmp 76) = .agg #[.int .u64 (K j), .int .i64 (V j)] := hA.val 9 _ 76 rfl (hp ⟨9, .data⟩ (by simp) rfl) rfl
              have hcc := hA.const
              have hcf := hA.func
              clear hA hp
              refine Reg.out_call (f := 12) (args := #[.agg #[.int .u64 (K j), .int .i64 (V j)]]) (w0 := w) ?_ ?_
              · go_simp
              refine (hOw.out w).mono ?_
              rintro e w' ⟨rfl, hb'⟩
              exact ⟨_, rfl, rfl, hb', Reg.Keeps.trans hI hb'⟩
            · refine Reg.StepAt.plain (i := 11) rfl ?_
              intro L ev w hI hk hp hA
              have e77 : ev (.tmp 77) = .agg #[.float .f64 (nf (K j)), .int .i64 (V j)] := hA.val 10 _ 77 rfl (hp ⟨10, .data⟩ (by simp) rfl) rfl
              have hcc := hA.const
              clear hA hp
              refine Reg.out_value (v := .float .f64 (nf (K j))) ?_ ⟨rfl, hrefl _, hI⟩
              go_simp
            · refine Reg.StepAt.plain (i := 12) rfl ?_
              intro L ev w hI hk hp hA
              have e78 : ev (.tmp 78) = .float .f64 (nf (K j)) := hA.val 11 _ 78 rfl (hp ⟨11, .data⟩ (by simp) rfl) rfl
              have hcc := hA.const
              have hcf := hA.func
              clear hA hp
              refine Reg.out_value (v := .int .u64 (ni (nf (K j)))) ?_ ⟨rfl, hrefl _, hI⟩
              go_simp
            · refine Reg.StepAt.plain (i := 13) rfl ?_
              intro L ev w hI hk hp hA
              have e72 : ev (.tmp 72) = .int .u64 (ni (nf (K j))) := hA.val 5 _ 72 rfl (hp ⟨5, .data⟩ (by simp) rfl) rfl
              have e79 : ev (.tmp 79) = .int .u64 (ni (nf (K j))) := hA.val 12 _ 79 rfl (hp ⟨12, .data⟩ (by simp) rfl) rfl
              have hcc := hA.const
              clear hA hp
              refine Reg.out_value (v := .bool false) ?_ ⟨rfl, hrefl _, hI⟩
              go_simp
            · refine Reg.StepAt.plain (i := 14) rfl ?_
              intro L ev w hI hk hp hA
              have e80 : ev (.tmp 80) = .bool false := hA.val 13 _ 80 rfl (hp ⟨13, .data⟩ (by simp) rfl) rfl
              have hcc := hA.const
              clear hA hp
              refine Reg.out_value (v := .bool false) ?_ ⟨rfl, hrefl _, hI⟩
              go_simp
            · refine Reg.StepAt.guarded (i := 15) rfl ?_
              intro L ev w hI hk hp hA
              have e3 : ev (.tmp 3) = .slice (some ⟨gi, 0, none⟩) k ci := hA.oldNone 3 (by kernel_rfl)
              have eg : ev (.tmp 81) = .bool false := hA.val 14 _ 81 rfl (hp ⟨14, .guard⟩ (by simp) rfl) rfl
              refine ⟨_, 81, false, rfl, rfl, eg, ?_⟩
              rw [if_pos rfl]
              have hcc := hA.const
              clear hA hp
              refine Reg.out_value (v := .slice (some ⟨gi, 0, none⟩) k ci) ?_ ⟨rfl, hrefl _, hI⟩
              go_simp
            · refine Reg.StepAt.guarded (i := 16) rfl ?_
              intro L ev w hI hk hp hA
              have e10 : ev (.tmp 10) = .int .i64 (j : Int) := hA.oldNone 10 (by kernel_rfl)
              have eg : ev (.tmp 81) = .bool false := hA.val 14 _ 81 rfl (hp ⟨14, .guard⟩ (by simp) rfl) rfl
              refine ⟨_, 81, false, rfl, rfl, eg, ?_⟩
              rw [if_pos rfl]
              have hcc := hA.const
              clear hA hp
              refine Reg.out_value (v := .int .i64 (j : Int)) ?_ ⟨rfl, hrefl _, hI⟩
              go_simp
            · refine Reg.StepAt.guarded (i := 17) rfl ?_
              intro L ev w hI hk hp hA
              have e82 : ev (.tmp 82) = .slice (some ⟨gi, 0, none⟩) k ci := hA.val 15 _ 82 rfl (hp ⟨15, .data⟩ (by simp) rfl) rfl
              have e83 : ev (.tmp 83) = .int .i64 (j : Int) := hA.val 16 _ 83 rfl (hp ⟨16, .data⟩ (by simp) rfl) rfl
              have eg : ev (.tmp 81) = .bool false := hA.val 14 _ 81 rfl (hp ⟨14, .guard⟩ (by simp) rfl) rfl
              refine ⟨_, 81, false, rfl, rfl, eg, ?_⟩
              rw [if_pos rfl]
              have hcc := hA.const
              clear hA hp
              refine Reg.out_value (v := .pointer (some ⟨gi, j * 2, none⟩)) ?_ ⟨rfl, hrefl _, hI⟩
              go_simp
            · refine Reg.StepAt.guarded (i := 18) rfl ?_
              intro L ev w hI hk hp hA
              have e84 : ev (.tmp 84) = .pointer (some ⟨gi, j * 2, none⟩) := hA.val 17 _ 84 rfl (hp ⟨17, .data⟩ (by simp) rfl) rfl
              have eg : ev (.tmp 81) = .bool false := hA.val 14 _ 81 rfl (hp ⟨14, .guard⟩ (by simp) rfl) rfl
              refine ⟨_, 81, false, rfl, rfl, eg, ?_⟩
              rw [if_pos rfl]
              have hcc := hA.const
              clear hA hp
              refine Reg.out_value (v := .pointer (some ⟨gi, j * 2 + 1, none⟩)) ?_ ⟨rfl, hrefl _, hI⟩
              go_simp
            · refine Reg.StepAt.guarded (i := 19) rfl ?_
              intro L ev w hI hk hp hA
              have e85 : ev (.tmp 85) = .pointer (some ⟨gi, j * 2 + 1, none⟩) := hA.val 18 _ 85 rfl (hp ⟨18, .data⟩ (by simp) rfl) rfl
              have eg : ev (.tmp 81) = .bool false := hA.val 14 _ 81 rfl (hp ⟨14, .guard⟩ (by simp) rfl) rfl
              refine ⟨_, 81, false, rfl, rfl, eg, ?_⟩
              rw [if_pos rfl]
              have hcc := hA.const
              clear hA hp
              obtain ⟨⟨f1, f2⟩, f3, f4⟩ := FC.out w (But.of_below hI)
              refine Reg.out_value (v := .int .i64 (V j)) ?_ ⟨rfl, hrefl _, hI⟩
              go_simp
            · refine Reg.StepAt.guarded (i := 20) rfl ?_
              intro L ev w hI hk hp hA
              have e0 : ev (.tmp 0) = .slice (some ⟨g, off, none⟩) n cap := hA.oldNone 0 (by kernel_rfl)
              have eg : ev (.tmp 81) = .bool false := hA.val 14 _ 81 rfl (hp ⟨14, .guard⟩ (by simp) rfl) rfl
              refine ⟨_, 81, false, rfl, rfl, eg, ?_⟩
              rw [if_pos rfl]
              have hcc := hA.const
              clear hA hp
              refine Reg.out_value (v := .slice (some ⟨g, off, none⟩) n cap) ?_ ⟨rfl, hrefl _, hI⟩
              go_simp
            · refine Reg.StepAt.guarded (i := 21) rfl ?_
              intro L ev w hI hk hp hA
              have e10 : ev (.tmp 10) = .int .i64 (j : Int) := hA.oldNone 10 (by kernel_rfl)
              have eg : ev (.tmp 81) = .bool false := hA.val 14 _ 81 rfl (hp ⟨14, .guard⟩ (by simp) rfl) rfl
              refine ⟨_, 81, false, rfl, rfl, eg, ?_⟩
              rw [if_pos rfl]
              have hcc := hA.const
              clear hA hp
              refine Reg.out_value (v := .int .i64 (j : Int)) ?_ ⟨rfl, hrefl _, hI⟩
              go_simp
            · refine Reg.StepAt.guarded (i := 22) rfl ?_
              intro L ev w hI hk hp hA
              have e87 : ev (.tmp 87) = .slice (some ⟨g, off, none⟩) n cap := hA.val 20 _ 87 rfl (hp ⟨20, .data⟩ (by simp) rfl) rfl
              have e88 : ev (.tmp 88) = .int .i64 (j : Int) := hA.val 21 _ 88 rfl (hp ⟨21, .data⟩ (by simp) rfl) rfl
              have eg : ev (.tmp 81) = .bool false := hA.val 14 _ 81 rfl (hp ⟨14, .guard⟩ (by simp) rfl) rfl
              refine ⟨_, 81, false, rfl, rfl, eg, ?_⟩
              rw [if_pos rfl]
              have hcc := hA.const
              clear hA hp
              refine Reg.out_value (v := .pointer (some ⟨g, off + j * 2, none⟩)) ?_ ⟨rfl, hrefl _, hI⟩
              go_simp
            · refine Reg.StepAt.guarded (i := 23) rfl ?_
              intro L ev w hI hk hp hA
              have e89 : ev (.tmp 89) = .pointer (some ⟨g, off + j * 2, none⟩) := hA.val 22 _ 89 rfl (hp ⟨22, .data⟩ (by simp) rfl) rfl
              have eg : ev (.tmp 81) = .bool false := hA.val 14 _ 81 rfl (hp ⟨14, .guard⟩ (by simp) rfl) rfl
              refine ⟨_, 81, false, rfl, rfl, eg, ?_⟩
              rw [if_pos rfl]
              have hcc := hA.const
              clear hA hp
              refine Reg.out_value (v := .pointer (some ⟨g, off + j * 2 + 1, none⟩)) ?_ ⟨rfl, hrefl _, hI⟩
              go_simp
            · refine Reg.StepAt.guarded (i := 24) rfl ?_
              intro L ev w hI hk hp hA
              have e90 : ev (.tmp 90) = .pointer (some ⟨g, off + j * 2 + 1, none⟩) := hA.val 23 _ 90 rfl (hp ⟨23, .data⟩ (by simp) rfl) rfl
              have eg : ev (.tmp 81) = .bool false := hA.val 14 _ 81 rfl (hp ⟨14, .guard⟩ (by simp) rfl) rfl
              refine ⟨_, 81, false, rfl, rfl, eg, ?_⟩
              rw [if_pos rfl]
              have hcc := hA.const
              clear hA hp
              obtain ⟨⟨f1, f2⟩, f3, f4⟩ := FC.out w (But.of_below hI)
              refine Reg.out_value (v := .int .i64 (V j)) ?_ ⟨rfl, hrefl _, hI⟩
              go_simp
            · refine Reg.StepAt.guarded (i := 25) rfl ?_
              intro L ev w hI hk hp hA
              have e86 : ev (.tmp 86) = .int .i64 (V j) := hA.val 19 _ 86 rfl (hp ⟨19, .data⟩ (by simp) rfl) rfl
              have e91 : ev (.tmp 91) = .int .i64 (V j) := hA.val 24 _ 91 rfl (hp ⟨24, .data⟩ (by simp) rfl) rfl
              have eg : ev (.tmp 81) = .bool false := hA.val 14 _ 81 rfl (hp ⟨14, .guard⟩ (by simp) rfl) rfl
              refine ⟨_, 81, false, rfl, rfl, eg, ?_⟩
              rw [if_pos rfl]
              have hcc := hA.const
              clear hA hp
              refine Reg.out_value (v := .bool false) ?_ ⟨rfl, hrefl _, hI⟩
              go_simp
            · refine Reg.StepAt.plain (i := 26) rfl ?_
              intro L ev w hI hk hp hA
              have e81 : ev (.tmp 81) = .bool false := hA.val 14 _ 81 rfl (hp ⟨14, .data⟩ (by simp) rfl) rfl
              have e92 : ev (.tmp 92) = .bool false := hA.val 25 _ 92 rfl (hp ⟨25, .data⟩ (by simp) rfl) rfl
              have hcc := hA.const
              clear hA hp
              refine Reg.out_value (v := .bool false) ?_ ⟨rfl, hrefl _, hI⟩
              go_simp
            intro L act w5 hall hI hF
            have g67 : act.eval (.tmp 67) = .slice (some ⟨gi, 0, none⟩) k ci := hF.val 0 _ 67 rfl (hall 0 (by simp)) rfl
            have g68 : act.eval (.tmp 68) = .int .i64 (j : Int) := hF.val 1 _ 68 rfl (hall 1 (by simp)) rfl
            have g69 : act.eval (.tmp 69) = .pointer (some ⟨gi, j * 2, none⟩) := hF.val 2 _ 69 rfl (hall 2 (by simp)) rfl
            have g70 : act.eval (.tmp 70) = .pointer (some ⟨gi, j * 2, none⟩) := hF.val 3 _ 70 rfl (hall 3 (by simp)) rfl
            have g71 : act.eval (.tmp 71) = .float .f64 (nf (K j)) := hF.val 4 _ 71 rfl (hall 4 (by simp)) rfl
            have g72 : act.eval (.tmp 72) = .int .u64 (ni (nf (K j))) := hF.val 5 _ 72 rfl (hall 5 (by simp)) rfl
            have g73 : act.eval (.tmp 73) = .slice (some ⟨g, off, none⟩) n cap := hF.val 6 _ 73 rfl (hall 6 (by simp)) rfl
            have g74 : act.eval (.tmp 74) = .int .i64 (j : Int) := hF.val 7 _ 74 rfl (hall 7 (by simp)) rfl
            have g75 : act.eval (.tmp 75) = .pointer (some ⟨g, off + j * 2, none⟩) := hF.val 8 _ 75 rfl (hall 8 (by simp)) rfl
            have g76 : act.eval (.tmp 76) = .agg #[.int .u64 (K j), .int .i64 (V j)] := hF.val 9 _ 76 rfl (hall 9 (by simp)) rfl
            have g77 : act.eval (.tmp 77) = .agg #[.float .f64 (nf (K j)), .int .i64 (V j)] := hF.val 10 _ 77 rfl (hall 10 (by simp)) rfl
            have g78 : act.eval (.tmp 78) = .float .f64 (nf (K j)) := hF.val 11 _ 78 rfl (hall 11 (by simp)) rfl
            have g79 : act.eval (.tmp 79) = .int .u64 (ni (nf (K j))) := hF.val 12 _ 79 rfl (hall 12 (by simp)) rfl
            have g80 : act.eval (.tmp 80) = .bool false := hF.val 13 _ 80 rfl (hall 13 (by simp)) rfl
            have g81 : act.eval (.tmp 81) = .bool false := hF.val 14 _ 81 rfl (hall 14 (by simp)) rfl
            have g82 : act.eval (.tmp 82) = .slice (some ⟨gi, 0, none⟩) k ci := hF.val 15 _ 82 rfl (hall 15 (by simp)) rfl
            have g83 : act.eval (.tmp 83) = .int .i64 (j : Int) := hF.val 16 _ 83 rfl (hall 16 (by simp)) rfl
            have g84 : act.eval (.tmp 84) = .pointer (some ⟨gi, j * 2, none⟩) := hF.val 17 _ 84 rfl (hall 17 (by simp)) rfl
            have g85 : act.eval (.tmp 85) = .pointer (some ⟨gi, j * 2 + 1, none⟩) := hF.val 18 _ 85 rfl (hall 18 (by simp)) rfl
            have g86 : act.eval (.tmp 86) = .int .i64 (V j) := hF.val 19 _ 86 rfl (hall 19 (by simp)) rfl
            have g87 : act.eval (.tmp 87) = .slice (some ⟨g, off, none⟩) n cap := hF.val 20 _ 87 rfl (hall 20 (by simp)) rfl
            have g88 : act.eval (.tmp 88) = .int .i64 (j : Int) := hF.val 21 _ 88 rfl (hall 21 (by simp)) rfl
            have g89 : act.eval (.tmp 89) = .pointer (some ⟨g, off + j * 2, none⟩) := hF.val 22 _ 89 rfl (hall 22 (by simp)) rfl
            have g90 : act.eval (.tmp 90) = .pointer (some ⟨g, off + j * 2 + 1, none⟩) := hF.val 23 _ 90 rfl (hall 23 (by simp)) rfl
            have g91 : act.eval (.tmp 91) = .int .i64 (V j) := hF.val 24 _ 91 rfl (hall 24 (by simp)) rfl
            have g92 : act.eval (.tmp 92) = .bool false := hF.val 25 _ 92 rfl (hall 25 (by simp)) rfl
            have g93 : act.eval (.tmp 93) = .bool false := hF.val 26 _ 93 rfl (hall 26 (by simp)) rfl
            have hact := hF.act [67, 68, 69, 70, 71, 72, 73, 74, 75, 76, 77, 78, 79, 80, 81, 82, 83, 84, 85, 86, 87, 88, 89, 90, 91, 92, 93] (by kernel_rfl)
            clear hF hall
            simp only [List.foldl_cons, List.foldl_nil] at hact
            rw [g67, g68, g69, g70, g71, g72, g73, g74, g75, g76, g77, g78, g79, g80, g81, g82, g83, g84, g85, g86, g87, g88, g89, g90, g91, g92, g93] at hact
            clear g67 g68 g69 g70 g71 g72 g73 g74 g75 g76 g77 g78 g79 g80 g81 g82 g83 g84 g85 g86 g87 g88 g89 g90 g91 g92 g93
            simp only [List.setIfInBounds_toArray, List.set_cons_succ, List.set_cons_zero] at hact
            subst hact
            go_wp2
            go_roundw
            all_goals first
              | (show (_ : Nat) < _; simp [intOf]; omega)
              | (exact ⟨j + 1, by go_num, by omega, hBj.trans (hI.mono hBj.size)⟩)
          · have hdj : decide ((j : Int) < (k : Int)) = false := decide_eq_false (by omega)
            have hdn : decide (j < k) = false := decide_eq_false hlj
            have hA1 := hidq (are_any g3 k gr cr k RL wr (H3.out.but (S := fun _ => False) (But.of_below hBj) id) (Hr4.out.but (S := fun _ => False) (But.of_below hBj) id) HRL.out)
            have hA2 := hidq (fun W (hW : But (fun _ => False) wr W) => are_any g4 k gr cr k RL W (HR4.out.but (S := fun _ => False) ((But.of_below hBj).trans hW) id) (Hr4.out.but (S := fun _ => False) ((But.of_below hBj).trans hW) id) HRL.out)
            go_wp2_with fail
            refine hA1.out.mono ?_
            rintro e w5 ⟨rfl, hb5⟩
            go_wp2_with fail
            refine (hA2.out w5 (But.of_below hb5)).mono ?_
            rintro e w6 ⟨rfl, hb6⟩
            go_wp2
            go_ret
            exact ⟨rfl, (((hB1.trans (hBel4.mono hB1.size)).trans (hBj.mono (by have := hB1.size; have := hBel4.size; omega))).trans (hb5.mono (by have := hB1.size; have := hBel4.size; have := hBj.size; omega))).trans (hb6.mono (by have := hB1.size; have := hBel4.size; have := hBj.size; have := hb5.size; omega))⟩
end Go.Proofs.Ytogacknpkoiokaa
