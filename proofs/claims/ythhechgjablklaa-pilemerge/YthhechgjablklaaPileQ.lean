/-
  Layer 4: the library's heap: Init, Push, Pop: contracts.
-/
import Derived.Test.YthhechgjablklaaPileP
namespace Go.Proofs.Ythhechgjablklaa
open Go.RowKit Go.Sort

theorem swp_self (d : Array KI) (i : Nat) (hi : i < d.size) : swp d i i = d := by
  apply Array.ext
  · simp [swp]
  · intro k h1 h2
    have e := swp_get d hi hi k
    rw [getElem!_pos _ k h1, getElem!_pos d k h2] at e
    rw [e]
    by_cases hk : k = i
    · subst hk; simp [h2]
    · simp [hk]
theorem swap_self (I J : Int) (g cap i : Nat) (d : Array KI) (w : World) (hI : I = (i : Int)) (hJ : J = (i : Int)) (h : Row w g cap d) (hi : i < d.size) :
    Calls Try.prog 152 #[.slice (some ⟨g, 0, none⟩) d.size cap, .int .i64 I, .int .i64 J] w fun e w' => e = .returned (.tuple #[]) ∧ Row w' g cap (swp d i i) ∧ But (fun k => k = g) w w' := by
  subst hI; subst hJ
  have hend : Row (((((w.setCell ⟨g, i * 2, none⟩ (.float .f64 d[i]!.b)).setCell ⟨g, i * 2 + 1, none⟩ (.int .i64 d[i]!.v)).setCell ⟨g, i * 2, none⟩ (.float .f64 d[i]!.b)).setCell ⟨g, i * 2 + 1, none⟩ (.int .i64 d[i]!.v)).drew) g cap (swp d i i) := by
    have h2 := (h.set i hi d[i]!).set i (by simpa using hi) d[i]!
    exact h2.but (S := fun _ => False) (But.refl _ _).drew id
  have f1 := h.flt i hi
  have v1 := h.val i hi
  generalize d[i]! = x at *
  have hN := h.max
  have hle := h.le
  have z1 := (h.there (i * 2) (by omega)).2
  have z2 := (h.there (i * 2 + 1) (by omega)).2
  clear h
  generalize swp d i i = d2 at hend ⊢
  generalize d.size = n at *
  have i1 : (i : Int) < (n : Int) := by omega
  have hsf := run_store_float (P := Try.prog)
  go_enter Try.func152, Try.ntmps152
  go_wp2
  go_region
  go_wp2
  go_end0
  exact ⟨rfl, hend, but4 _ _ _ _ _ _ _ _ _ _⟩

theorem len_any (a : Option Addr) (n c : Nat) (w : World) : Calls Try.prog 150 #[.slice a n c] w fun e w' => e = .returned (.int .i64 (n : Int)) ∧ w' = w := by
  go_enter Try.func150, Try.ntmps150
  go_wp2
  go_ret
  exact ⟨rfl, rfl⟩


theorem down_at (I N : Int) (b g cap n i0 : Nat) (d : Array KI) (w : World) (hI : I = (i0 : Int)) (hN : N = (n : Int)) (h : PileAt w b g cap d) (hn : n ≤ d.size) (hh : Hp.Heap KI.lt d n (i0 + 1)) (hi0 : i0 ≤ n) :
    Calls Try.prog 86 #[.iface 132 (.pointer (some ⟨b, 0, none⟩)), .int .i64 I, .int .i64 N] w fun e w' => (∃ r, e = .returned (.bool r)) ∧ ∃ d', Sift w w' b g cap n d d' ∧ Hp.Heap KI.lt d' n i0 := by
  subst hI; subst hN; exact down_any b g cap n i0 d w h hn hh hi0
theorem up_at (J : Int) (b g cap j0 : Nat) (d : Array KI) (w : World) (hJ : J = (j0 : Int)) (h : PileAt w b g cap d) (hj0 : j0 < d.size) (hu : Hp.Up KI.lt d d.size j0) :
    Calls Try.prog 87 #[.iface 132 (.pointer (some ⟨b, 0, none⟩)), .int .i64 J] w fun e w' => e = .returned (.tuple #[]) ∧ ∃ d', Sift w w' b g cap d.size d d' ∧ Hp.Heap KI.lt d' d.size 0 := by
  subst hJ; exact up_any b g cap j0 d w h hj0 hu

theorem init_any (b g cap : Nat) (d : Array KI) (w : World) (h : PileAt w b g cap d) :
    Calls Try.prog 60 #[.iface 132 (.pointer (some ⟨b, 0, none⟩))] w fun e w' => e = .returned (.tuple #[]) ∧ ∃ d', Sift w w' b g cap d.size d d' ∧ Hp.Heap KI.lt d' d.size 0 := by
  have hmax := h.row.max
  obtain ⟨n, hn⟩ : ∃ n, n = d.size := ⟨_, rfl⟩
  have hml := mLen b w _ h.hd
  rw [← hn] at hmax hml ⊢
  go_enter Try.func60, Try.ntmps60
  go_wp2_with (go_at_call 150; refine (len_any _ _ _ _).mono ?_; rintro e w1 ⟨rfl, hw1⟩; replace hw1 := hw1.symm; subst hw1)
  go_loopw [3] (fun a wr => ∃ (k : Nat) (d' : Array KI), a = .int .i64 ((k : Int) - 1) ∧ k ≤ n ∧ Sift w wr b g cap n d d' ∧ Hp.Heap KI.lt d' n k) (fun a _ => (intOf a + 1).toNat)
  case atStart => exact ⟨n / 2, d, congrArg (Value.int .i64) (by omega), by omega, ⟨h, But.refl _ _, List.Perm.refl _, fun _ _ => rfl⟩, Hp.Heap.none (by omega)⟩
  case round =>
    obtain ⟨k, d', rfl, hkn, hS, hH⟩ := hrel
    rcases k with _ | k
    · go_wp2
      go_end0
      exact ⟨rfl, d', hS, hH⟩
    · have hk0 : (0 : Int) ≤ (k : Int) := by omega
      have hle : n ≤ d'.size := by rw [hS.size]; omega
      clear hml
      go_wp2_with (go_at_call 86; refine (down_at _ _ b g cap n k d' _ (by omega) (by omega) hS.pile hle hH (by omega)).mono ?_; rintro e w2 ⟨⟨r, rfl⟩, d2, hS2, hH2⟩)
      go_roundw
      case rel => exact ⟨k, d2, congrArg (Value.int .i64) (by omega), by omega, ⟨hS2.pile, hS.but.trans hS2.but, hS2.perm.trans hS.perm, fun x hx => (hS2.rest x hx).trans (hS.rest x hx)⟩, hH2⟩
      case measure => simp [intOf]

theorem hpush_any (b g cap : Nat) (d : Array KI) (x : KI) (w : World) (h : PileAt w b g cap d) (hs : d.size + 1 ≤ 1099511627776) (hh : Hp.Heap KI.lt d d.size 0) :
    Calls Try.prog 61 #[.iface 132 (.pointer (some ⟨b, 0, none⟩)), .iface 29 (.agg #[.float .f64 x.b, .int .i64 x.v])] w fun e w' => e = .returned (.tuple #[]) ∧
      ∃ g' cap' d', PileAt w' b g' cap' d' ∧ Hp.Heap KI.lt d' d'.size 0 ∧ d'.toList.Perm (x :: d.toList) ∧ But (fun k => k = b ∨ k = g) w w' ∧ (g' = g ∨ w.heap.size ≤ g') := by
  have hmp := mPush b w
  go_enter Try.func61, Try.ntmps61
  go_wp2_with fail
  refine (pushM_any b g cap d x w h hs).mono ?_
  rintro e w1 ⟨rfl, g', cap', hP, hB, hg⟩
  have hml := mLen b w1 _ hP.hd
  have hU := Hp.Up.start hh x rfl
  have hsz : (d.push x).size = d.size + 1 := by simp
  rw [← hsz] at hU
  have hpm : (d.push x).toList.Perm (x :: d.toList) := by
    rw [Array.toList_push]; exact List.perm_append_comm (l₁ := d.toList) (l₂ := [x])
  have hlt : d.size < (d.push x).size := by omega
  have hJ : ((d.push x).size : Int) - 1 = (d.size : Int) := by omega
  have HJ : Hid (((d.push x).size : Int) - 1 = (d.size : Int)) := hJ
  have hi1 : ((d.push x).size : Int) ≤ 1099511627776 := by omega
  have hi2 : 1 ≤ ((d.push x).size : Int) := by omega
  clear hJ hsz hmp
  generalize d.push x = d1 at *
  go_wp2_with (go_at_call 150; refine (len_any _ _ _ _).mono ?_; rintro e w2 ⟨rfl, hw2⟩; replace hw2 := hw2.symm; subst hw2)
  refine (up_at _ b g' cap' d.size d1 _ (by have := HJ.out; omega) hP hlt hU).mono ?_
  rintro e w2 ⟨rfl, d', hS, hH⟩
  go_wp2
  go_end0
  refine ⟨rfl, g', cap', d', hS.pile, by rw [hS.size]; exact hH, hS.perm.trans hpm, hB.then hS.but (fun i hi e => ?_), hg⟩
  rcases hg with hg | hg
  · exact .inr (e.trans hg)
  · omega

theorem pop_push (d : Array KI) (n : Nat) (hn : d.size = n + 1) : d.pop.push d[n]! = d := by
  apply Array.ext
  · simp [hn]
  · intro k h1 h2
    rw [Array.getElem_push]
    split
    · rw [Array.getElem_pop]
    · rename_i e
      have hk : k = n := by simp at e; omega
      subst hk
      exact getElem!_pos d k h2

theorem hpop_any (b g cap n : Nat) (d : Array KI) (w : World) (h : PileAt w b g cap d) (hn : d.size = n + 1) (hh : Hp.Heap KI.lt d d.size 0) :
    Calls Try.prog 62 #[.iface 132 (.pointer (some ⟨b, 0, none⟩))] w fun e w' => e = .returned (.iface 29 (.agg #[.float .f64 d[0]!.b, .int .i64 d[0]!.v])) ∧
      ∃ d', PileAt w' b g cap d' ∧ Hp.Heap KI.lt d' d'.size 0 ∧ d.toList.Perm (d[0]! :: d'.toList) ∧ But (fun k => k = b ∨ k = g) w w' := by
  have hml := mLen b w _ h.hd
  have hms := mSwap b w _ h.hd
  have hSw : ∀ I J : Int, I = ((0 : Nat) : Int) → J = (n : Int) → Calls Try.prog 152 #[.slice (some ⟨g, 0, none⟩) d.size cap, .int .i64 I, .int .i64 J] w fun e w' => e = .returned (.tuple #[]) ∧ Row w' g cap (swp d 0 n) ∧ But (fun k => k = g) w w' := fun I J hI hJ => by
    by_cases e : n = 0
    · subst e; exact swap_self I J g cap 0 d w hI hJ h.row (by omega)
    · exact swap_any I J g cap 0 n d w hI hJ h.row (by omega) (by omega) (Ne.symm e)
  have hH1 : Hp.Heap KI.lt (swp d 0 n) n 1 := Hp.Heap.swapped (by rw [← hn]; exact hh)
  have hperm := Hp.swp_perm d 0 n (by omega) (by omega)
  have hlast : (swp d 0 n)[n]! = d[0]! := swp_right d 0 n (by omega)
  have hsz1 : (swp d 0 n).size = n + 1 := by rw [size_swp]; exact hn
  have hmax : n + 1 ≤ 1099511627776 := by have := h.row.max; omega
  have hi1 : (d.size : Int) ≤ 1099511627776 := by omega
  have hi2 : 1 ≤ (d.size : Int) := by omega
  have hNI : Hid (∀ _ : Unit, (d.size : Int) - 1 = (n : Int)) := fun _ => by omega
  clear hh hn
  go_enter Try.func62, Try.ntmps62
  go_wp2_with (go_at_call 150; refine (len_any _ _ _ _).mono ?_; rintro e w1 ⟨rfl, hw1⟩; replace hw1 := hw1.symm; subst hw1)
  refine (hSw _ _ (by rfl) (by have := hNI (); omega)).mono ?_
  rintro e w2 ⟨rfl, hr2, hb2⟩
  have hP2 := h.rows hb2 hr2 (size_swp _ _ _)
  clear hSw
  generalize swp d 0 n = d1 at *
  go_wp2_with fail
  refine (down_at _ _ b g cap n 0 d1 _ (by rfl) (by have := hNI (); omega) hP2 (by omega) hH1 (Nat.zero_le _)).mono ?_
  rintro e w3 ⟨⟨r, rfl⟩, d2, hS, hH2⟩
  have hmpop := mPop b w3
  have hsz2 : d2.size = n + 1 := by rw [hS.size]; exact hsz1
  have hl2 : d2[n]! = d[0]! := (hS.rest n (Nat.le_refl _)).trans hlast
  have HS2 : Hid (∀ _ : Unit, d2.size = n + 1) := fun _ => hsz2
  have HL2 : Hid (∀ _ : Unit, d2[n]! = d[0]!) := fun _ => hl2
  clear hsz2 hl2 hsz1 hlast
  go_wp2_with fail
  refine (popM_any b g cap n d2 w3 hS.pile (HS2 ())).mono ?_
  rw [HL2 ()]
  rintro e w4 ⟨rfl, hP4, hb4⟩
  go_wp2
  go_ret
  have hz : d2.pop.size = n := by have := HS2 (); simp; omega
  refine ⟨rfl, d2.pop, hP4, ?_, ?_, ?_⟩
  · rw [hz]
    intro p c hp hc hcn
    have hcc : p < n := by unfold Hp.Child at hc; omega
    have := HS2 ()
    rw [pop_get d2 (by omega), pop_get d2 (by omega)]
    exact hH2 p c hp hc hcn
  · have e1 := pop_push d2 n (HS2 ())
    rw [HL2 ()] at e1
    have e2 : d2.toList = d2.pop.toList ++ [d[0]!] := by rw [← Array.toList_push, e1]
    have h3 : d.toList.Perm d2.toList := (hS.perm.trans hperm).symm
    rw [e2] at h3
    exact h3.trans (List.perm_append_comm (l₁ := d2.pop.toList) (l₂ := [d[0]!]))
  · exact ((hb2.mono (fun _ _ e => .inr e)).then hS.but (fun _ _ e => .inr e)).then hb4 (fun _ _ e => .inl e)
end Go.Proofs.Ythhechgjablklaa
