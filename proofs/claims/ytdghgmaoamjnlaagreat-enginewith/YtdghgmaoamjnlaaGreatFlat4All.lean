/-
  Layer 4: the library's heap: Init, Push, Pop: contracts.
  Layer 4: items made canonical, a pile of them: contracts.
  Layer 4: its calls: contracts.
  Canonical items, as a cell has them.
  A slice of elements of k cells in a block of its own, by its cells one behind the other: appending to it.
  Layer 4's laws: items in the making, the document's answers: contracts.
  The document's items, one behind the other.
-/
import Derived.Test.YtdghgmaoamjnlaaGreatPilePAll
import Derived.Test.YtdghgmaoamjnlaaGreatGhostAll
import Derived.Test.YtdghgmaoamjnlaaGreatKNew9All
import Derived.Laws.IdiomCopy
namespace Go.Proofs.YtdghgmaoamjnlaaGreat
open Go.RowKit Go.Sort

theorem swp_self (d : Array KI) (i : Nat) (hi : i < d.size) : swp d i i = d := by
  apply Array.ext
  · simp [swp]
  · intro k h1 h2
    have e := swp_get d hi hi k
    rw [getElem!_pos _ k h1, getElem!_pos d k h2] at e
    rw [e]
    by_cases hk : k = i
    · subst hk; simp [h2]
    · simp [hk]
theorem swap_self (I J : Int) (g cap i : Nat) (d : Array KI) (w : World) (hI : I = (i : Int)) (hJ : J = (i : Int)) (h : Row w g cap d) (hi : i < d.size) :
    Calls Tryz.prog 241 #[.slice (some ⟨g, 0, none⟩) d.size cap, .int .i64 I, .int .i64 J] w fun e w' => e = .returned (.tuple #[]) ∧ Row w' g cap (swp d i i) ∧ But (fun k => k = g) w w' := by
  subst hI; subst hJ
  have hend : Row (((((w.setCell ⟨g, i * 2, none⟩ (.float .f64 d[i]!.b)).setCell ⟨g, i * 2 + 1, none⟩ (.int .i64 d[i]!.v)).setCell ⟨g, i * 2, none⟩ (.float .f64 d[i]!.b)).setCell ⟨g, i * 2 + 1, none⟩ (.int .i64 d[i]!.v)).drew) g cap (swp d i i) := by
    have h2 := (h.set i hi d[i]!).set i (by simpa using hi) d[i]!
    exact h2.but (S := fun _ => False) (But.refl _ _).drew id
  have f1 := h.flt i hi
  have v1 := h.val i hi
  generalize d[i]! = x at *
  have hN := h.max
  have hle := h.le
  have z1 := (h.there (i * 2) (by omega)).2
  have z2 := (h.there (i * 2 + 1) (by omega)).2
  clear h
  generalize swp d i i = d2 at hend ⊢
  generalize d.size = n at *
  have i1 : (i : Int) < (n : Int) := by omega
  have hsf := run_store_float (P := Tryz.prog)
  go_enter Tryz.func241, Tryz.ntmps241
  go_wp2
  go_region
  go_wp2
  go_end0
  exact ⟨rfl, hend, but4 _ _ _ _ _ _ _ _ _ _⟩

theorem len_any (a : Option Addr) (n c : Nat) (w : World) : Calls Tryz.prog 239 #[.slice a n c] w fun e w' => e = .returned (.int .i64 (n : Int)) ∧ w' = w := by
  go_enter Tryz.func239, Tryz.ntmps239
  go_wp2
  go_ret
  exact ⟨rfl, rfl⟩


theorem down_at (I N : Int) (b g cap n i0 : Nat) (d : Array KI) (w : World) (hI : I = (i0 : Int)) (hN : N = (n : Int)) (h : PileAt w b g cap d) (hn : n ≤ d.size) (hh : Hp.Heap KI.lt d n (i0 + 1)) (hi0 : i0 ≤ n) :
    Calls Tryz.prog 216 #[.iface 310 (.pointer (some ⟨b, 0, none⟩)), .int .i64 I, .int .i64 N] w fun e w' => (∃ r, e = .returned (.bool r)) ∧ ∃ d', Sift w w' b g cap n d d' ∧ Hp.Heap KI.lt d' n i0 := by
  subst hI; subst hN; exact down_any b g cap n i0 d w h hn hh hi0
theorem up_at (J : Int) (b g cap j0 : Nat) (d : Array KI) (w : World) (hJ : J = (j0 : Int)) (h : PileAt w b g cap d) (hj0 : j0 < d.size) (hu : Hp.Up KI.lt d d.size j0) :
    Calls Tryz.prog 217 #[.iface 310 (.pointer (some ⟨b, 0, none⟩)), .int .i64 J] w fun e w' => e = .returned (.tuple #[]) ∧ ∃ d', Sift w w' b g cap d.size d d' ∧ Hp.Heap KI.lt d' d.size 0 := by
  subst hJ; exact up_any b g cap j0 d w h hj0 hu

theorem init_any (b g cap : Nat) (d : Array KI) (w : World) (h : PileAt w b g cap d) :
    Calls Tryz.prog 213 #[.iface 310 (.pointer (some ⟨b, 0, none⟩))] w fun e w' => e = .returned (.tuple #[]) ∧ ∃ d', Sift w w' b g cap d.size d d' ∧ Hp.Heap KI.lt d' d.size 0 := by
  have hmax := h.row.max
  obtain ⟨n, hn⟩ : ∃ n, n = d.size := ⟨_, rfl⟩
  have hml := mLen b w _ h.hd
  rw [← hn] at hmax hml ⊢
  go_enter Tryz.func213, Tryz.ntmps213
  go_wp2_with (go_at_call 239; refine (len_any _ _ _ _).mono ?_; rintro e w1 ⟨rfl, hw1⟩; replace hw1 := hw1.symm; subst hw1)
  go_loopw [3] (fun a wr => ∃ (k : Nat) (d' : Array KI), a = .int .i64 ((k : Int) - 1) ∧ k ≤ n ∧ Sift w wr b g cap n d d' ∧ Hp.Heap KI.lt d' n k) (fun a _ => (intOf a + 1).toNat)
  case atStart => exact ⟨n / 2, d, congrArg (Value.int .i64) (by omega), by omega, ⟨h, But.refl _ _, List.Perm.refl _, fun _ _ => rfl⟩, Hp.Heap.none (by omega)⟩
  case round =>
    obtain ⟨k, d', rfl, hkn, hS, hH⟩ := hrel
    rcases k with _ | k
    · go_wp2
      go_end0
      exact ⟨rfl, d', hS, hH⟩
    · have hk0 : (0 : Int) ≤ (k : Int) := by omega
      have hle : n ≤ d'.size := by rw [hS.size]; omega
      clear hml
      go_wp2_with (go_at_call 216; refine (down_at _ _ b g cap n k d' _ (by omega) (by omega) hS.pile hle hH (by omega)).mono ?_; rintro e w2 ⟨⟨r, rfl⟩, d2, hS2, hH2⟩)
      go_roundw
      case rel => exact ⟨k, d2, congrArg (Value.int .i64) (by omega), by omega, ⟨hS2.pile, hS.but.trans hS2.but, hS2.perm.trans hS.perm, fun x hx => (hS2.rest x hx).trans (hS.rest x hx)⟩, hH2⟩
      case measure => simp [intOf]

theorem hpush_any (b g cap : Nat) (d : Array KI) (x : KI) (w : World) (h : PileAt w b g cap d) (hs : d.size + 1 ≤ 1099511627776) (hh : Hp.Heap KI.lt d d.size 0) :
    Calls Tryz.prog 214 #[.iface 310 (.pointer (some ⟨b, 0, none⟩)), .iface 53 (.agg #[.float .f64 x.b, .int .i64 x.v])] w fun e w' => e = .returned (.tuple #[]) ∧
      ∃ g' cap' d', PileAt w' b g' cap' d' ∧ Hp.Heap KI.lt d' d'.size 0 ∧ d'.toList.Perm (x :: d.toList) ∧ But (fun k => k = b ∨ k = g) w w' ∧ (g' = g ∨ w.heap.size ≤ g') := by
  have hmp := mPush b w
  go_enter Tryz.func214, Tryz.ntmps214
  go_wp2_with fail
  refine (pushM_any b g cap d x w h hs).mono ?_
  rintro e w1 ⟨rfl, g', cap', hP, hB, hg⟩
  have hml := mLen b w1 _ hP.hd
  have hU := Hp.Up.start hh x rfl
  have hsz : (d.push x).size = d.size + 1 := by simp
  rw [← hsz] at hU
  have hpm : (d.push x).toList.Perm (x :: d.toList) := by
    rw [Array.toList_push]; exact List.perm_append_comm (l₁ := d.toList) (l₂ := [x])
  have hlt : d.size < (d.push x).size := by omega
  have hJ : ((d.push x).size : Int) - 1 = (d.size : Int) := by omega
  have HJ : Hid (((d.push x).size : Int) - 1 = (d.size : Int)) := hJ
  have hi1 : ((d.push x).size : Int) ≤ 1099511627776 := by omega
  have hi2 : 1 ≤ ((d.push x).size : Int) := by omega
  clear hJ hsz hmp
  generalize d.push x = d1 at *
  go_wp2_with (go_at_call 239; refine (len_any _ _ _ _).mono ?_; rintro e w2 ⟨rfl, hw2⟩; replace hw2 := hw2.symm; subst hw2)
  refine (up_at _ b g' cap' d.size d1 _ (by have := HJ.out; omega) hP hlt hU).mono ?_
  rintro e w2 ⟨rfl, d', hS, hH⟩
  go_wp2
  go_end0
  refine ⟨rfl, g', cap', d', hS.pile, by rw [hS.size]; exact hH, hS.perm.trans hpm, hB.then hS.but (fun i hi e => ?_), hg⟩
  rcases hg with hg | hg
  · exact .inr (e.trans hg)
  · omega

theorem pop_push (d : Array KI) (n : Nat) (hn : d.size = n + 1) : d.pop.push d[n]! = d := by
  apply Array.ext
  · simp [hn]
  · intro k h1 h2
    rw [Array.getElem_push]
    split
    · rw [Array.getElem_pop]
    · rename_i e
      have hk : k = n := by simp at e; omega
      subst hk
      exact getElem!_pos d k h2

theorem hpop_any (b g cap n : Nat) (d : Array KI) (w : World) (h : PileAt w b g cap d) (hn : d.size = n + 1) (hh : Hp.Heap KI.lt d d.size 0) :
    Calls Tryz.prog 215 #[.iface 310 (.pointer (some ⟨b, 0, none⟩))] w fun e w' => e = .returned (.iface 53 (.agg #[.float .f64 d[0]!.b, .int .i64 d[0]!.v])) ∧
      ∃ d', PileAt w' b g cap d' ∧ Hp.Heap KI.lt d' d'.size 0 ∧ d.toList.Perm (d[0]! :: d'.toList) ∧ But (fun k => k = b ∨ k = g) w w' := by
  have hml := mLen b w _ h.hd
  have hms := mSwap b w _ h.hd
  have hSw : ∀ I J : Int, I = ((0 : Nat) : Int) → J = (n : Int) → Calls Tryz.prog 241 #[.slice (some ⟨g, 0, none⟩) d.size cap, .int .i64 I, .int .i64 J] w fun e w' => e = .returned (.tuple #[]) ∧ Row w' g cap (swp d 0 n) ∧ But (fun k => k = g) w w' := fun I J hI hJ => by
    by_cases e : n = 0
    · subst e; exact swap_self I J g cap 0 d w hI hJ h.row (by omega)
    · exact swap_any I J g cap 0 n d w hI hJ h.row (by omega) (by omega) (Ne.symm e)
  have hH1 : Hp.Heap KI.lt (swp d 0 n) n 1 := Hp.Heap.swapped (by rw [← hn]; exact hh)
  have hperm := Hp.swp_perm d 0 n (by omega) (by omega)
  have hlast : (swp d 0 n)[n]! = d[0]! := swp_right d 0 n (by omega)
  have hsz1 : (swp d 0 n).size = n + 1 := by rw [size_swp]; exact hn
  have hmax : n + 1 ≤ 1099511627776 := by have := h.row.max; omega
  have hi1 : (d.size : Int) ≤ 1099511627776 := by omega
  have hi2 : 1 ≤ (d.size : Int) := by omega
  have hNI : Hid (∀ _ : Unit, (d.size : Int) - 1 = (n : Int)) := fun _ => by omega
  clear hh hn
  go_enter Tryz.func215, Tryz.ntmps215
  go_wp2_with (go_at_call 239; refine (len_any _ _ _ _).mono ?_; rintro e w1 ⟨rfl, hw1⟩; replace hw1 := hw1.symm; subst hw1)
  refine (hSw _ _ (by rfl) (by have := hNI (); omega)).mono ?_
  rintro e w2 ⟨rfl, hr2, hb2⟩
  have hP2 := h.rows hb2 hr2 (size_swp _ _ _)
  clear hSw
  generalize swp d 0 n = d1 at *
  go_wp2_with fail
  refine (down_at _ _ b g cap n 0 d1 _ (by rfl) (by have := hNI (); omega) hP2 (by omega) hH1 (Nat.zero_le _)).mono ?_
  rintro e w3 ⟨⟨r, rfl⟩, d2, hS, hH2⟩
  have hmpop := mPop b w3
  have hsz2 : d2.size = n + 1 := by rw [hS.size]; exact hsz1
  have hl2 : d2[n]! = d[0]! := (hS.rest n (Nat.le_refl _)).trans hlast
  have HS2 : Hid (∀ _ : Unit, d2.size = n + 1) := fun _ => hsz2
  have HL2 : Hid (∀ _ : Unit, d2[n]! = d[0]!) := fun _ => hl2
  clear hsz2 hl2 hsz1 hlast
  go_wp2_with fail
  refine (popM_any b g cap n d2 w3 hS.pile (HS2 ())).mono ?_
  rw [HL2 ()]
  rintro e w4 ⟨rfl, hP4, hb4⟩
  go_wp2
  go_ret
  have hz : d2.pop.size = n := by have := HS2 (); simp; omega
  refine ⟨rfl, d2.pop, hP4, ?_, ?_, ?_⟩
  · rw [hz]
    intro p c hp hc hcn
    have hcc : p < n := by unfold Hp.Child at hc; omega
    have := HS2 ()
    rw [pop_get d2 (by omega), pop_get d2 (by omega)]
    exact hH2 p c hp hc hcn
  · have e1 := pop_push d2 n (HS2 ())
    rw [HL2 ()] at e1
    have e2 : d2.toList = d2.pop.toList ++ [d[0]!] := by rw [← Array.toList_push, e1]
    have h3 : d.toList.Perm d2.toList := (hS.perm.trans hperm).symm
    rw [e2] at h3
    exact h3.trans (List.perm_append_comm (l₁ := d2.pop.toList) (l₂ := [d[0]!]))
  · exact ((hb2.mono (fun _ _ e => .inr e)).then hS.but (fun _ _ e => .inr e)).then hb4 (fun _ _ e => .inl e)
end Go.Proofs.YtdghgmaoamjnlaaGreat

namespace Go.Proofs.YtdghgmaoamjnlaaGreat
open Go.RowKit Go.Sort

/-- Items that are handed over: their bits and values. -/
def Items (w : World) (a : Option Addr) (n : Nat) (P : Nat → Nat) (V : Nat → Int) : Prop :=
  ∀ i, i < n → ∃ g, a = some ⟨g, 0, none⟩ ∧ g < w.heap.size ∧ w.cell? ⟨g, i * 2, none⟩ = some (.float .f64 (P i)) ∧ w.cell? ⟨g, i * 2 + 1, none⟩ = some (.int .i64 (V i)) ∧ P i < 18446744073709551616
theorem Items.below {w w' : World} {a : Option Addr} {n : Nat} {P : Nat → Nat} {V : Nat → Int} (h : Items w a n P V) (hb : Below w.heap.size w w') : Items w' a n P V := fun i hi => by
  obtain ⟨g, h1, h2, h3, h4, h5⟩ := h i hi
  exact ⟨g, h1, Nat.lt_of_lt_of_le h2 hb.size, by rw [hb.cell (p := ⟨g, i * 2, none⟩) h2]; exact h3, by rw [hb.cell (p := ⟨g, i * 2 + 1, none⟩) h2]; exact h4, h5⟩
def canArr (P : Nat → Nat) (V : Nat → Int) (n k : Nat) : Array KI := (Array.range n).map fun i => if i < k then mkKI (P i) (V i) else default
theorem canArr_size (P : Nat → Nat) (V : Nat → Int) (n k : Nat) : (canArr P V n k).size = n := by simp [canArr]
theorem canArr_get (P : Nat → Nat) (V : Nat → Int) (n k i : Nat) (h : i < n) : (canArr P V n k)[i]! = if i < k then mkKI (P i) (V i) else default := by
  rw [getElem!_pos _ i (by rw [canArr_size]; exact h)]; simp [canArr]
theorem canArr_step (P : Nat → Nat) (V : Nat → Int) (n k : Nat) : (canArr P V n k).setIfInBounds k (mkKI (P k) (V k)) = canArr P V n (k + 1) := by
  apply Array.ext
  · simp [canArr]
  · intro i h1 h2
    rw [Array.getElem_setIfInBounds (by simpa using h1)]
    simp only [canArr, Array.getElem_map, Array.getElem_range]
    by_cases e : k = i
    · subst e; simp
    · rw [if_neg e]
      by_cases e2 : i < k
      · rw [if_pos e2, if_pos (by omega)]
      · rw [if_neg e2, if_neg (by omega)]

theorem made (n : Nat) (hn : n ≤ 1099511627776) (P : Nat → Nat) (V : Nat → Int) (w : World) : ∃ w0, (Instr.makeSlice 30 (.int .i64 (n : Int)) (.int .i64 (n : Int))).run Tryz.prog w = .ok (.slice (some ⟨w.heap.size, 0, none⟩) n n) w0 ∧ Row w0 w.heap.size n (canArr P V n 0) ∧ Below w.heap.size w w0 ∧ w0.heap.size = w.heap.size + 1 := by
  obtain ⟨i, hi, hz, hsz, hby⟩ := info_item
  have hr := run_make (P := Tryz.prog) w 30 53 i _ Tryz.underlying30 hi hz .i64 .i64 (n : Int) (n : Int) (by omega) (Int.le_refl _) (by rw [hby]; omega) (by omega)
  rw [Int.toNat_natCast, hsz] at hr
  refine ⟨_, hr, ?_, (Below.refl _ _).alloc (Nat.le_refl _) _, by simp⟩
  have hc : ∀ j, (w.alloc (.cells (madeCells (Value.agg #[.float .f64 0, .int .i64 0]).cells (n * 2)) 53)).cell? ⟨w.heap.size, j, none⟩ = (madeCells (Value.agg #[.float .f64 0, .int .i64 0]).cells (n * 2))[j]? := fun j => World.cell?_alloc_new w _ _ j
  refine Row.ofCells (by simp) (by rw [canArr_size]; exact Nat.le_refl _) (by rw [canArr_size]; exact hn) (by unfold maxLen; omega) (fun t ht => ?_) (fun j hj => ⟨?_, World.frozen?_alloc_new w _ _ _⟩)
  · rw [canArr_size] at ht
    rw [hc, Array.getElem?_eq_getElem (by rw [size_madeCells]; exact ht)]
    have e0 : (canArr P V n 0)[t / 2]! = default := by rw [canArr_get P V n 0 (t / 2) (by omega), if_neg (by omega)]
    unfold cellOf
    rw [e0]
    have ez : (Value.agg #[.float .f64 0, .int .i64 0]).cells = #[.float .f64 0, .int .i64 0] := rfl
    simp only [madeCells, Array.getElem_map, Array.getElem_range, ez]
    rcases Nat.mod_two_eq_zero_or_one t with e | e
    · rw [if_pos e]
      show some ((#[Value.float .f64 0, Value.int .i64 0] : Array Value)[t % 2]!) = _
      rw [e]; rfl
    · rw [if_neg (by omega)]
      show some ((#[Value.float .f64 0, Value.int .i64 0] : Array Value)[t % 2]!) = _
      rw [e]; rfl
  · rw [hc, Array.getElem?_eq_getElem (by rw [size_madeCells]; exact hj)]; rfl

set_option maxHeartbeats 1000000 in
theorem canonical_any (a : Option Addr) (n cap : Nat) (P : Nat → Nat) (V : Nat → Int) (w : World) (h : Items w a n P V) (hn : n ≤ 1099511627776) :
    Calls Tryz.prog 62 #[.slice a n cap] w fun e w' => ∃ g, e = .returned (.slice (some ⟨g, 0, none⟩) n n) ∧ w.heap.size ≤ g ∧ Row w' g n (canArr P V n n) ∧ Below w.heap.size w w' := by
  have hn1 : (n : Int) ≤ 1099511627776 := by omega
  obtain ⟨w0, hmk, hR0, hB0, hs0⟩ := made n hn P V w
  clear hs0
  have hsf := run_store_float (P := Tryz.prog)
  go_enter Tryz.func62, Tryz.ntmps62
  go_wp2
  go_loopw [11] (fun s wr => ∃ k : Nat, s = .int .i64 (k : Int) ∧ k ≤ n ∧ Row wr w.heap.size n (canArr P V n k) ∧ Below w.heap.size w wr) (fun s _ => n - (intOf s).toNat)
  case atStart => exact ⟨0, rfl, Nat.zero_le _, hR0, hB0⟩
  case round =>
    obtain ⟨k, rfl, hk, hR, hB⟩ := hrel
    by_cases hlt : k < n
    · obtain ⟨ga, rfl, hg, hf, hv, hp⟩ := h k hlt
      have hf' : wr.cell? ⟨ga, k * 2, none⟩ = some (.float .f64 (P k)) := by rw [hB.cell (p := ⟨ga, k * 2, none⟩) hg]; exact hf
      have hv' : wr.cell? ⟨ga, k * 2 + 1, none⟩ = some (.int .i64 (V k)) := by rw [hB.cell (p := ⟨ga, k * 2 + 1, none⟩) hg]; exact hv
      have hcn := icanon_any (P k) (V k) (wr.alloc (boxI (P k) (V k)))
      have k1 : (k : Int) < (n : Int) := by omega
      go_wp2_with fail
      refine hcn.mono ?_
      rintro e w2 ⟨rfl, hb2⟩
      have hbb : But (fun _ => False) wr w2 := ((But.refl _ wr).alloc _).trans (But.of_below hb2)
      have hR2 := hR.but hbb id
      have hs := hR2.set k (by rw [canArr_size]; exact hlt) (mkKI (P k) (V k))
      rw [canArr_step, mkKI_b hp, mkKI_v hp] at hs
      have z1 := (hR2.there (k * 2) (by omega)).2
      have z2 := (hR2.there (k * 2 + 1) (by omega)).2
      have c1 := hR2.flt k (by rw [canArr_size]; exact hlt)
      have c2 := hR2.val k (by rw [canArr_size]; exact hlt)
      have hB2 : Below w.heap.size w w2 := hB.trans (hbb.below hB.size (fun _ e => e.elim))
      clear hcn hR2 hR hbb hb2 hf hv hf' hv' hmk
      go_wp2
      go_roundw
      case rel => exact ⟨k + 1, by go_num, by omega, hs, (hB2.setCell (Nat.le_refl _) _).setCell (Nat.le_refl _) _⟩
      case measure => simp [intOf]; omega
    · have hd : decide ((k : Int) < (n : Int)) = false := decide_eq_false (by omega)
      have hkn : k = n := by omega
      have HR : Row wr w.heap.size n (canArr P V n n) := by rw [hkn] at hR; exact hR
      clear hR hmk hkn
      go_wp2
      go_ret
      exact ⟨w.heap.size, rfl, Nat.le_refl _, HR, hB⟩
end Go.Proofs.YtdghgmaoamjnlaaGreat

namespace Go.Proofs.YtdghgmaoamjnlaaGreat
open Go.RowKit Go.Sort

/-- A pile that is a heap. -/
structure HeapAt (w : World) (b g : Nat) (d : Array KI) : Prop where
  pile : ∃ cap, PileAt w b g cap d
  heap : Hp.Heap KI.lt d d.size 0
theorem HeapAt.but {S : Nat → Prop} {w w' : World} {b g : Nat} {d : Array KI} (h : HeapAt w b g d) (hb : But S w w') (h1 : ¬ S b) (h2 : ¬ S g) : HeapAt w' b g d := by
  obtain ⟨cap, hP⟩ := h.pile
  exact ⟨⟨cap, hP.but hb h1 h2⟩, h.heap⟩

theorem new_any (a : Option Addr) (n cap : Nat) (P : Nat → Nat) (V : Nat → Int) (w : World) (h : Items w a n P V) (hn : n ≤ 1099511627776) :
    Calls Tryz.prog 207 #[.slice a n cap] w fun e w' => ∃ b g d, e = .returned (.pointer (some ⟨b, 0, none⟩)) ∧ w.heap.size ≤ b ∧ w.heap.size ≤ g ∧ HeapAt w' b g d ∧ d.toList.Perm (canArr P V n n).toList ∧ Below w.heap.size w w' := by
  go_enter Tryz.func207, Tryz.ntmps207
  go_wp2_with (go_at_call 62; refine (canonical_any a n cap P V _ h hn).mono ?_; rintro e w1 ⟨g, rfl, hg, hR, hB⟩)
  have hs := canArr_size P V n n
  have hP : PileAt (w1.alloc (.cells #[.slice (some ⟨g, 0, none⟩) n n] 308)) w1.heap.size g n (canArr P V n n) := by
    refine ⟨?_, World.frozen?_alloc_new w1 _ _ _, ?_, by simp, hR.but (S := fun _ => False) ((But.refl _ _).alloc _) id⟩
    · rw [World.cell?_alloc_new, hs]; rfl
    · have := hR.lt; omega
  have hB1 : Below w.heap.size w (w1.alloc (.cells #[.slice (some ⟨g, 0, none⟩) n n] 308)) := hB.trans ((Below.refl _ _).alloc hB.size _)
  have hgb : g < w1.heap.size := hR.lt
  clear hR
  refine (init_any w1.heap.size g n (canArr P V n n) _ hP).mono ?_
  rintro e w2 ⟨rfl, d, hS, hH⟩
  go_wp2
  go_ret
  refine ⟨w1.heap.size, g, d, rfl, hB.size, hg, ⟨⟨n, hS.pile⟩, by rw [hS.size]; exact hH⟩, hS.perm, hB1.trans (hS.but.below hB1.size (fun k hk => by rw [hk]; exact hg))⟩

theorem put_any (b g p : Nat) (v : Int) (d : Array KI) (w : World) (h : HeapAt w b g d) (hp : p < 18446744073709551616) (hs : d.size + 1 ≤ 1099511627776) :
    Calls Tryz.prog 208 #[.pointer (some ⟨b, 0, none⟩), .agg #[.float .f64 p, .int .i64 v]] w fun e w' => e = .returned (.tuple #[]) ∧
      ∃ g' d', HeapAt w' b g' d' ∧ d'.toList.Perm (mkKI p v :: d.toList) ∧ But (fun k => k = b ∨ k = g) w w' ∧ (g' = g ∨ w.heap.size ≤ g') := by
  have hPu : ∀ w1, But (fun _ => False) w w1 → Calls Tryz.prog 214 #[.iface 310 (.pointer (some ⟨b, 0, none⟩)), .iface 53 (.agg #[.float .f64 (cbits p), .int .i64 v])] w1 fun e w' => e = .returned (.tuple #[]) ∧
      ∃ g' d', HeapAt w' b g' d' ∧ d'.toList.Perm (mkKI p v :: d.toList) ∧ But (fun k => k = b ∨ k = g) w w' ∧ (g' = g ∨ w.heap.size ≤ g') := fun w1 hb => by
    obtain ⟨cap, hP⟩ := h.pile
    have := hpush_any b g cap d (mkKI p v) w1 (hP.but hb id id) hs h.heap
    rw [mkKI_b hp, mkKI_v hp] at this
    refine this.mono ?_
    rintro e w' ⟨rfl, g', cap', d', h1, h2, h3, h4, h5⟩
    exact ⟨rfl, g', d', ⟨⟨cap', h1⟩, h2⟩, h3, (hb.mono (fun _ _ e => e.elim)).trans h4, h5.imp id (Nat.le_trans hb.size)⟩
  clear h hs hp
  go_enter Tryz.func208, Tryz.ntmps208
  go_wp2
  go_region_with (first
    | (go_at_call 21; refine (icanon_any _ _ _).mono ?_; rintro e w1 ⟨rfl, hb1⟩)
    | (go_at_call 214; refine (hPu _ (((But.refl _ w).alloc _).drew.trans (But.of_below hb1))).mono ?_; rintro e w2 ⟨rfl, g', d', hq⟩))
  all_goals go_wp2
  all_goals go_end0
  all_goals exact ⟨rfl, g', d', hq⟩

theorem first_none (b g : Nat) (d : Array KI) (w : World) (h : HeapAt w b g d) (hd : d.size = 0) :
    Calls Tryz.prog 210 #[.pointer (some ⟨b, 0, none⟩)] w fun e w' => e = .returned (.tuple #[.agg #[.float .f64 0, .int .i64 0], .bool false]) ∧ Below w.heap.size w w' := by
  obtain ⟨cap, hP⟩ := h.pile
  have hc := hP.hd
  rw [hd] at hc
  have hb := hP.blt
  have hsf := run_store_float (P := Tryz.prog)
  clear h hP hd
  go_enter Tryz.func210, Tryz.ntmps210
  go_wp2
  exact bodyPost_ret (v := .tuple #[.agg #[.float .f64 0, .int .i64 0], .bool false]) (by simp [results, Tryz.results210, go_sem]) rfl ⟨rfl, (Below.refl _ _).alloc (Nat.le_refl _) _⟩
theorem first_some (b g : Nat) (d : Array KI) (w : World) (h : HeapAt w b g d) (hd : 0 < d.size) :
    Calls Tryz.prog 210 #[.pointer (some ⟨b, 0, none⟩)] w fun e w' => e = .returned (.tuple #[.agg #[.float .f64 d[0]!.b, .int .i64 d[0]!.v], .bool true]) ∧ Below w.heap.size w w' := by
  obtain ⟨cap, hP⟩ := h.pile
  have hc := hP.hd
  have hb := hP.blt
  have hg := hP.row.lt
  have f := hP.row.flt 0 hd
  have v := hP.row.val 0 hd
  generalize d[0]! = x at *
  generalize d.size = n at *
  have hne : ((n : Int) == 0) = false := by simp; omega
  have hsf := run_store_float (P := Tryz.prog)
  clear h hP
  go_enter Tryz.func210, Tryz.ntmps210
  go_wp2
  exact bodyPost_ret (v := .tuple #[.agg #[.float .f64 x.b, .int .i64 x.v], .bool true]) (by simp [results, Tryz.results210, go_sem]) rfl ⟨rfl, (Below.refl _ _).alloc (Nat.le_refl _) _⟩
end Go.Proofs.YtdghgmaoamjnlaaGreat

namespace Go.Proofs.YtdghgmaoamjnlaaGreat
open Go.RowKit Go.Sort

/-- Items, as a cell has them. -/
def kit (K : List KI) : List It := K.map fun x => (x.b, x.v)
theorem kit_length (K : List KI) : (kit K).length = K.length := by simp [kit]
theorem items_of {w : World} {a : Option Addr} {cap n : Nat} {K : List KI} (hn : n = K.length) (h : SlAt 2 w a cap n (flatI (kit K))) : Items w a n (fun i => K.toArray[i]!.b) (fun i => K.toArray[i]!.v) := by
  intro i hi
  have hk : i < (kit K).length := by rw [kit_length]; omega
  have hk2 : i < K.length := by omega
  obtain ⟨e1, e2⟩ := flatI_get (kit K) i hk
  obtain ⟨g, h1, h2, h3⟩ := h.cell e1
  obtain ⟨g', h1', _, h3'⟩ := h.cell e2
  rw [h1] at h1'
  cases h1'
  have hx : K.toArray[i]! = K[i] := by rw [getElem!_pos K.toArray i (by simpa using hk2)]; rfl
  refine ⟨g, h1, h2, ?_, ?_, ?_⟩
  · rw [h3]; simp only [hx]; simp [kit]
  · rw [h3']; simp only [hx]; simp [kit]
  · exact (K.toArray[i]!).ok.1
theorem canArr_self (d : Array KI) : (canArr (fun i => d[i]!.b) (fun i => d[i]!.v) d.size d.size).toList = d.toList := by
  refine List.ext_getElem (by simp [canArr]) ?_
  intro i h1 h2
  have hi : i < d.size := by simpa using h2
  simp [canArr, hi, mkKI_self]
theorem can_kit (K : List KI) (n : Nat) (hn : n = K.length) : (canArr (fun i => K.toArray[i]!.b) (fun i => K.toArray[i]!.v) n n).toList = K := by
  have := canArr_self K.toArray
  subst hn
  simpa using this
/-- Items as they are, as canonical ones. -/
def kis (L : List It) : List KI := L.map fun q => mkKI q.1 q.2
theorem kis_kit (K : List KI) : kis (kit K) = K := by
  unfold kis kit
  rw [List.map_map]
  conv => rhs; rw [← List.map_id K]
  exact List.map_congr_left (fun x _ => mkKI_self x)
end Go.Proofs.YtdghgmaoamjnlaaGreat

namespace Go.Proofs.YtdghgmaoamjnlaaGreat
open Go.RowKit Go.Sort

end Go.Proofs.YtdghgmaoamjnlaaGreat

namespace Go.Proofs.YtdghgmaoamjnlaaGreat
open Go.RowKit Go.Sort

theorem run_equalIn_float {P : Program} (d : Nat) (t : TypeId) (a b : Nat) (w : World) (h : P.underlying t = some (.float .f64)) : (Op.equalIn (d + 1) t (.float .f64 a) (.float .f64 b)).run P w = .ok (Op.floatEq .f64 a b) w := by
  simp [Op.equalIn, run_underlying h]

theorem own_any (p v : Int) (w : World) : Calls Tryz.prog 20 #[.agg #[.int .u64 p, .int .i64 v]] w fun e w' => e = .returned (.agg #[.float .f64 (nf p), .int .i64 v]) ∧ Below w.heap.size w w' := by
  have hsf := run_store_float (P := Tryz.prog)
  go_enter Tryz.func20, Tryz.ntmps20
  go_wp2
  go_region_with (go_at_call 67; refine (f_any _ _).mono ?_; rintro e w1 ⟨rfl, hw1⟩; replace hw1 := hw1.symm; subst hw1)
  all_goals go_wp2
  all_goals exact bodyPost_ret (v := .agg #[.float .f64 (nf p), .int .i64 v]) (by simp [results, Tryz.results20, go_sem]) rfl ⟨rfl, ((((Below.refl _ _).alloc (Nat.le_refl _) _).alloc (by simp) _)).drew⟩

theorem make_any (p v : Int) (w : World) (h0 : 0 ≤ p) (h1 : p < 18446744073709551616) :
    Calls Tryz.prog 84 #[.int .u64 p, .int .i64 v] w fun e w' => e = .returned (.agg #[.int .u64 (ni (cbits (nf p))), .int .i64 v]) ∧ Below w.heap.size w w' := by
  have hR := fun w => rbits_any p w h0 h1
  clear h0 h1
  go_enter Tryz.func84, Tryz.ntmps84
  go_wp2_with (go_at_call 113; refine (hR _).mono ?_; rintro e w1 ⟨rfl, hw1⟩; replace hw1 := hw1.symm; subst hw1)
  exact bodyPost_ret (v := .agg #[.int .u64 (ni (cbits (nf p))), .int .i64 v]) (by simp [results, Tryz.results84, go_sem]) rfl ⟨rfl, (Below.refl _ _).alloc (Nat.le_refl _) _⟩
theorem told_any (p v : Int) (w : World) (h0 : 0 ≤ p) (h1 : p < 18446744073709551616) :
    Calls Tryz.prog 37 #[.agg #[.int .u64 p, .int .i64 v]] w fun e w' => e = .returned (.agg #[.int .u64 (ni (cbits (nf p))), .int .i64 v]) ∧ Below w.heap.size w w' := by
  have hM := fun w => make_any p v w h0 h1
  obtain ⟨q, hq⟩ : ∃ q, ni (cbits (nf p)) = q := ⟨_, rfl⟩
  rw [hq] at hM ⊢
  clear h0 h1 hq
  go_enter Tryz.func37, Tryz.ntmps37
  go_wp2_with fail
  refine (hM _).mono ?_
  rintro e w1 ⟨rfl, hb1⟩
  have hz : w.heap.size + 1 < w1.heap.size := by have := hb1.size; simp at this; omega
  have c0 : w1.cell? ⟨w.heap.size + 1, 0, none⟩ = some (.int .u64 0) := by rw [hb1.cell (p := ⟨w.heap.size + 1, 0, none⟩) (by simp)]; simp
  have c1 : w1.cell? ⟨w.heap.size + 1, 1, none⟩ = some (.int .i64 0) := by rw [hb1.cell (p := ⟨w.heap.size + 1, 1, none⟩) (by simp)]; simp
  have z0 : w1.frozen? ⟨w.heap.size + 1, 0, none⟩ = false := by rw [hb1.frozen (p := ⟨w.heap.size + 1, 0, none⟩) (by simp)]; simp
  have z1 : w1.frozen? ⟨w.heap.size + 1, 1, none⟩ = false := by rw [hb1.frozen (p := ⟨w.heap.size + 1, 1, none⟩) (by simp)]; simp
  go_wp2
  refine bodyPost_ret (v := .agg #[.int .u64 q, .int .i64 v]) (by simp [results, Tryz.results37, go_sem, c0, c1]) rfl ⟨rfl, ?_⟩
  exact ((((((Below.refl _ _).alloc (Nat.le_refl _) _).alloc (by simp) _).trans (hb1.mono (by simp; omega))).setCell (by simp) _).setCell (by simp) _)

/-- Is an item the document's? -/
def isV (m : Nat) (a q b : Int) : Int := if ni m = q ∧ a = b then 0 else -1
theorem is_any (m : Nat) (a q b : Int) (w : World) : Calls Tryz.prog 36 #[.agg #[.float .f64 m, .int .i64 a], .agg #[.int .u64 q, .int .i64 b]] w fun e w' => e = .returned (.int .i64 (isV m a q b)) ∧ Below w.heap.size w w' := by
  have h15 := run_bits
  by_cases h1 : ni m = q
  · by_cases h2 : a = b
    · have : isV m a q b = 0 := if_pos ⟨h1, h2⟩
      rw [this]
      subst h1; subst h2
      clear this
      go_enter Tryz.func36, Tryz.ntmps36
      go_wp2
      go_quiet (fail)
      go_wp2
      go_ret
      exact ⟨rfl, below_drewN (((Below.refl _ _).alloc (Nat.le_refl _) _).alloc (by simp) _) _⟩
    · have : isV m a q b = -1 := if_neg (fun e => h2 e.2)
      rw [this]
      subst h1
      clear this
      have hb : (a != b) = true := by simpa using h2
      go_enter Tryz.func36, Tryz.ntmps36
      go_wp2
      go_quiet (fail)
      go_wp2
      go_ret
      exact ⟨rfl, below_drewN (((Below.refl _ _).alloc (Nat.le_refl _) _).alloc (by simp) _) _⟩
  · have : isV m a q b = -1 := if_neg (fun e => h1 e.1)
    rw [this]
    clear this
    have hb : (ni m != q) = true := by simpa using h1
    go_enter Tryz.func36, Tryz.ntmps36
    go_wp2
    go_quiet (fail)
    go_wp2
    go_ret
    exact ⟨rfl, below_drewN (((Below.refl _ _).alloc (Nat.le_refl _) _).alloc (by simp) _) _⟩

theorem rcmp4_any (p a q b : Int) (w : World) (h0 : 0 ≤ p) (h1 : p < 18446744073709551616) (h2 : 0 ≤ q) (h3 : q < 18446744073709551616) :
    Calls Tryz.prog 127 #[.agg #[.int .u64 p, .int .i64 a], .agg #[.int .u64 q, .int .i64 b]] w fun e w' => e = .returned (.int .i64 (cmpN (nf p) a (nf q) b)) ∧ Below w.heap.size w w' := by
  have hC := fun w => rcmp_any p q w h0 h1 h2 h3
  obtain ⟨c, hc⟩ : ∃ c, cmpI (key (nf p)) (key (nf q)) = c := ⟨_, rfl⟩
  rw [hc] at hC
  clear h0 h1 h2 h3
  by_cases e : c = 0
  · rw [cmpN_same (by rw [hc]; exact e)]
    subst e
    clear hc
    rcases Int.lt_trichotomy a b with h | h | h
    · rw [cmpI_lt h]
      go_enter Tryz.func127, Tryz.ntmps127
      go_wp2_with (go_at_call 153; refine (hC _).mono ?_; rintro e w1 ⟨rfl, hw1⟩; replace hw1 := hw1.symm; subst hw1)
      go_ret
      exact ⟨rfl, ((Below.refl _ _).alloc (Nat.le_refl _) _).alloc (by simp) _⟩
    · rw [cmpI_eq h]
      subst h
      go_enter Tryz.func127, Tryz.ntmps127
      go_wp2_with (go_at_call 153; refine (hC _).mono ?_; rintro e w1 ⟨rfl, hw1⟩; replace hw1 := hw1.symm; subst hw1)
      go_ret
      exact ⟨rfl, ((Below.refl _ _).alloc (Nat.le_refl _) _).alloc (by simp) _⟩
    · rw [cmpI_gt h]
      have hd : decide (a < b) = false := decide_eq_false (by omega)
      go_enter Tryz.func127, Tryz.ntmps127
      go_wp2_with (go_at_call 153; refine (hC _).mono ?_; rintro e w1 ⟨rfl, hw1⟩; replace hw1 := hw1.symm; subst hw1)
      go_ret
      exact ⟨rfl, ((Below.refl _ _).alloc (Nat.le_refl _) _).alloc (by simp) _⟩
  · rw [cmpN_other (by rw [hc]; exact e), hc]
    have hb : (c == 0) = false := by simpa using e
    clear hc e
    go_enter Tryz.func127, Tryz.ntmps127
    go_wp2_with (go_at_call 153; refine (hC _).mono ?_; rintro e w1 ⟨rfl, hw1⟩; replace hw1 := hw1.symm; subst hw1)
    go_ret
    exact ⟨rfl, ((Below.refl _ _).alloc (Nat.le_refl _) _).alloc (by simp) _⟩
end Go.Proofs.YtdghgmaoamjnlaaGreat

namespace Go.Proofs.YtdghgmaoamjnlaaGreat
open Go.RowKit Go.Sort

theorem plainR : PlainK Tryz.prog 2 70 69 := by
  have h : (Tryz.prog.info? 69).map (fun i => (i.zero, i.size, i.bytes)) = some (some (.agg #[.int .u64 0, .int .i64 0]), 2, 16) := by kernel_rfl
  obtain ⟨i, hi, he⟩ := Option.map_eq_some_iff.1 h
  simp only [Prod.mk.injEq] at he
  exact ⟨i, _, Tryz.underlying70, hi, he.1, he.2.1, rfl, by rw [he.2.2]; decide⟩

def encR (x : KI) : List Value := [.int .u64 (ni x.b), .int .i64 x.v]
def flatR (L : List KI) : List Value := L.flatMap encR
theorem flatR_length (L : List KI) : (flatR L).length = L.length * 2 := by
  induction L with
  | nil => rfl
  | cons x L ih => simp only [flatR, List.flatMap_cons, List.length_append, List.length_cons] at *; rw [ih]; simp [encR]; omega
theorem flatR_append (L M : List KI) : flatR (L ++ M) = flatR L ++ flatR M := by simp [flatR]
theorem flatR_get : ∀ (L : List KI) (i : Nat) (h : i < L.length), (flatR L)[i * 2]? = some (.int .u64 (ni L[i].b)) ∧ (flatR L)[i * 2 + 1]? = some (.int .i64 L[i].v)
  | x :: L, 0, h => ⟨rfl, rfl⟩
  | x :: L, i + 1, h => by
    have := flatR_get L i (by simpa using h)
    simp only [List.getElem_cons_succ]
    have e : flatR (x :: L) = .int .u64 (ni x.b) :: .int .i64 x.v :: flatR L := rfl
    rw [e, show (i + 1) * 2 = i * 2 + 1 + 1 by omega]
    exact this
theorem flatR_one (L : List KI) : ∀ u ∈ flatR L, u.oneCell' = true := by
  intro u hu
  simp only [flatR, List.mem_flatMap, encR] at hu
  obtain ⟨x, _, hx⟩ := hu
  simp at hx
  rcases hx with rfl | rfl <;> rfl

/-- Items that are read one by one, wherever their slice begins. -/
def RdR (w : World) (a : Option Addr) (L : List KI) : Prop :=
  ∀ i (h : i < L.length), ∃ g off, a = some ⟨g, off, none⟩ ∧ g < w.heap.size ∧ w.cell? ⟨g, off + i * 2, none⟩ = some (.int .u64 (ni L[i].b)) ∧ w.cell? ⟨g, off + i * 2 + 1, none⟩ = some (.int .i64 L[i].v)
theorem RdR.of_flat {w : World} {g cap : Nat} {L : List KI} (h : Flat 2 w g cap L.length (flatR L)) : RdR w (some ⟨g, 0, none⟩) L := fun i hi => by
  refine ⟨g, 0, rfl, h.lt, ?_, ?_⟩
  · rw [Nat.zero_add]; exact h.cell _ _ (flatR_get L i hi).1
  · rw [Nat.zero_add]; exact h.cell _ _ (flatR_get L i hi).2
theorem RdR.but {S : Nat → Prop} {w w' : World} {a : Option Addr} {L : List KI} (h : RdR w a L) (hb : But S w w') (hS : ∀ j, inB a j → ¬ S j) : RdR w' a L := fun i hi => by
  obtain ⟨g, off, h1, h2, h3, h4⟩ := h i hi
  have hn : ¬ S g := hS g ⟨_, h1, rfl⟩
  exact ⟨g, off, h1, Nat.lt_of_lt_of_le h2 hb.size, (hb.cell (p := ⟨g, off + i * 2, none⟩) h2 hn).trans h3, (hb.cell (p := ⟨g, off + i * 2 + 1, none⟩) h2 hn).trans h4⟩
theorem RdR.below {w w' : World} {a : Option Addr} {L : List KI} (h : RdR w a L) (hb : Below w.heap.size w w') : RdR w' a L := h.but (S := fun _ => False) (But.of_below hb) (fun _ _ e => e)

theorem src_two {P : Program} {T E : TypeId} (w : World) (hk : P.underlying T = some (.slice E)) (b : Nat) (u v : Value) (h0 : w.cell? ⟨b, 0, none⟩ = some u) (h1 : w.cell? ⟨b, 1, none⟩ = some v) (o0 : u.oneCell' = true) (o1 : v.oneCell' = true) : Src P 2 T (.slice (some ⟨b, 0, none⟩) 1 1) 1 [u, v] w := by
  refine Src.ofSlice w hk _ 1 1 _ rfl (fun j z hz => ?_) (fun z hz => by simp at hz; rcases hz with rfl | rfl <;> assumption)
  rw [Addr.add_lit]
  rcases j with _ | _ | j
  · simp at hz; subst hz; exact h0
  · simp at hz; subst hz; exact h1
  · simp at hz

end Go.Proofs.YtdghgmaoamjnlaaGreat
