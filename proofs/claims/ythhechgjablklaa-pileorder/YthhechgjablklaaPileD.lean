/-
  Layer 4: the library's heap, sifting: contracts.
-/
import Derived.Test.YthhechgjablklaaPileI
namespace Go.Proofs.Ythhechgjablklaa
open Go.RowKit Go.Sort

/-- Block b is a pile whose items lie in block g. -/
structure PileAt (w : World) (b g cap : Nat) (d : Array KI) : Prop where
  hd : w.cell? ⟨b, 0, none⟩ = some (.slice (some ⟨g, 0, none⟩) d.size cap)
  fz : w.frozen? ⟨b, 0, none⟩ = false
  ne : b ≠ g
  blt : b < w.heap.size
  row : Row w g cap d
theorem PileAt.but {S : Nat → Prop} {w w' : World} {b g cap : Nat} {d : Array KI} (h : PileAt w b g cap d) (hb : But S w w') (h1 : ¬ S b) (h2 : ¬ S g) : PileAt w' b g cap d :=
  ⟨by rw [hb.cell (p := ⟨b, 0, none⟩) h.blt h1]; exact h.hd, by rw [hb.frozen (p := ⟨b, 0, none⟩) h.blt h1]; exact h.fz, h.ne, Nat.lt_of_lt_of_le h.blt hb.size, h.row.but hb h2⟩
theorem PileAt.rows {w w' : World} {b g cap : Nat} {d d' : Array KI} (h : PileAt w b g cap d) (hb : But (fun k => k = g) w w') (hr : Row w' g cap d') (hs : d'.size = d.size) : PileAt w' b g cap d' :=
  ⟨by rw [hb.cell (p := ⟨b, 0, none⟩) h.blt h.ne, hs]; exact h.hd, by rw [hb.frozen (p := ⟨b, 0, none⟩) h.blt h.ne]; exact h.fz, h.ne, Nat.lt_of_lt_of_le h.blt hb.size, hr⟩

theorem less_at (I J : Int) (g cap i j : Nat) (d : Array KI) (w : World) (hI : I = (i : Int)) (hJ : J = (j : Int)) (h : Row w g cap d) (hi : i < d.size) (hj : j < d.size) :
    Calls Try.prog 151 #[.slice (some ⟨g, 0, none⟩) d.size cap, .int .i64 I, .int .i64 J] w fun e w' => e = .returned (.bool (d[i]!.lt d[j]!)) ∧ Below w.heap.size w w' := by
  subst hI; subst hJ; exact less_any g cap i j d w h hi hj

/-- What sifting down leaves. -/
structure Sift (w w' : World) (b g cap n : Nat) (d d' : Array KI) : Prop where
  pile : PileAt w' b g cap d'
  but : But (fun k => k = g) w w'
  perm : d'.toList.Perm d.toList
  rest : ∀ x, n ≤ x → d'[x]! = d[x]!
theorem Sift.size {w w' : World} {b g cap n : Nat} {d d' : Array KI} (h : Sift w w' b g cap n d d') : d'.size = d.size := by
  have := h.perm.length_eq; simpa using this

set_option maxHeartbeats 1000000 in
theorem down_any (b g cap n i0 : Nat) (d : Array KI) (w : World) (h : PileAt w b g cap d) (hn : n ≤ d.size) (hh : Hp.Heap KI.lt d n (i0 + 1)) (hi0 : i0 ≤ n) :
    Calls Try.prog 86 #[.iface 132 (.pointer (some ⟨b, 0, none⟩)), .int .i64 (i0 : Int), .int .i64 (n : Int)] w fun e w' => (∃ r, e = .returned (.bool r)) ∧ ∃ d', Sift w w' b g cap n d d' ∧ Hp.Heap KI.lt d' n i0 := by
  have hmax := h.row.max
  have hle := h.row.le
  have hn40 : (n : Int) ≤ 1099511627776 := by omega
  go_enter Try.func86, Try.ntmps86
  go_wp2
  go_loopw [7] (fun a wr => ∃ (i : Nat) (d' : Array KI), a = .int .i64 (i : Int) ∧ i ≤ n ∧ Sift w wr b g cap n d d' ∧ Hp.Down KI.lt d' n i0 i) (fun a _ => n - (intOf a).toNat)
  case atStart => exact ⟨i0, d, rfl, hi0, ⟨h, But.refl _ _, List.Perm.refl _, fun _ _ => rfl⟩, Hp.Down.start hh⟩
  case round =>
    obtain ⟨i, d', rfl, hin, hS, hD⟩ := hrel
    by_cases hj1 : 2 * i + 1 < n
    · have hnd : n ≤ d'.size := by rw [hS.size]; exact hn
      have hP := hS.pile
      have hdn : decide ((n : Int) ≤ 2 * (i : Int) + 1) = false := decide_eq_false (by omega)
      have hdz : decide (2 * (i : Int) + 1 < 0) = false := decide_eq_false (by omega)
      by_cases hj2 : 2 * i + 2 < n
      · have h2n : 2 * (i : Int) + 1 + 1 < (n : Int) := by omega
        cases hl1 : d'[2 * i + 2]!.lt d'[2 * i + 1]!
        · have hL : Hp.Least KI.lt d' n i (2 * i + 1) := ⟨by unfold Hp.Child; omega, by omega, fun o ho hon => by
            unfold Hp.Child at ho
            rcases ho with rfl | rfl
            · exact KI.swo.irrefl _
            · exact hl1⟩
          cases hl2 : d'[2 * i + 1]!.lt d'[i]!
          · have HH := hD.stop KI.swo hL hl2
            have hml := mLess b wr _ hP.hd
            clear hD hL
            go_wp2_with (go_at_call 151; refine (less_at _ _ g cap (2 * i + 2) (2 * i + 1) d' _ (by omega) (by omega) hP.row (by omega) (by omega)).mono ?_; rw [hl1]; rintro e w1 ⟨rfl, hb1⟩; have hP1 := hP.but (S := fun _ => False) (But.of_below hb1) id id; have hml1 := mLess b w1 _ hP1.hd)
            refine (less_at _ _ g cap (2 * i + 1) i d' _ (by omega) (by omega) hP1.row (by omega) (by omega)).mono ?_
            rw [hl2]
            rintro e w2 ⟨rfl, hb2⟩
            have hP2 := hP1.but (S := fun _ => False) (But.of_below hb2) id id
            have hms2 := mSwap b w2 _ hP2.hd
            have hB2 : But (fun k => k = g) w w2 := hS.but.trans ((But.of_below hb1).trans (But.of_below hb2))
            go_wp2
            go_ret
            exact ⟨⟨_, rfl⟩, d', ⟨hP2, hB2, hS.perm, hS.rest⟩, HH⟩
          · have HH := hD.step KI.swo hL hl2 (by omega)
            have hml := mLess b wr _ hP.hd
            clear hD hL
            go_wp2_with (go_at_call 151; refine (less_at _ _ g cap (2 * i + 2) (2 * i + 1) d' _ (by omega) (by omega) hP.row (by omega) (by omega)).mono ?_; rw [hl1]; rintro e w1 ⟨rfl, hb1⟩; have hP1 := hP.but (S := fun _ => False) (But.of_below hb1) id id; have hml1 := mLess b w1 _ hP1.hd)
            refine (less_at _ _ g cap (2 * i + 1) i d' _ (by omega) (by omega) hP1.row (by omega) (by omega)).mono ?_
            rw [hl2]
            rintro e w2 ⟨rfl, hb2⟩
            have hP2 := hP1.but (S := fun _ => False) (But.of_below hb2) id id
            have hms2 := mSwap b w2 _ hP2.hd
            have hB2 : But (fun k => k = g) w w2 := hS.but.trans ((But.of_below hb1).trans (But.of_below hb2))
            go_wp2_with fail
            refine (swap_any _ _ g cap i (2 * i + 1) d' _ (by omega) (by omega) hP2.row (by omega) (by omega) (by omega)).mono ?_
            rintro e w3 ⟨rfl, hr3, hb3⟩
            have hs3 := Hp.swp_perm d' i (2 * i + 1) (by omega) (by omega)
            have hP3 := hP2.rows hb3 hr3 (size_swp _ _ _)
            have HR : ∀ x, n ≤ x → (swp d' i (2 * i + 1))[x]! = d[x]! := fun x hx => by rw [swp_other d' i (2 * i + 1) x (by omega) (by omega)]; exact hS.rest x hx
            go_wp2
            go_roundw
            case rel => exact ⟨2 * i + 1, _, congrArg (Value.int .i64) (by omega), by omega, ⟨hP3, hB2.trans hb3, hs3.trans hS.perm, HR⟩, HH⟩
            case measure => simp [intOf]; omega
        · have hL : Hp.Least KI.lt d' n i (2 * i + 2) := ⟨by unfold Hp.Child; omega, by omega, fun o ho hon => by
            unfold Hp.Child at ho
            rcases ho with rfl | rfl
            · exact Hp.asym KI.swo hl1
            · exact KI.swo.irrefl _⟩
          cases hl2 : d'[2 * i + 2]!.lt d'[i]!
          · have HH := hD.stop KI.swo hL hl2
            have hml := mLess b wr _ hP.hd
            clear hD hL
            go_wp2_with (go_at_call 151; refine (less_at _ _ g cap (2 * i + 2) (2 * i + 1) d' _ (by omega) (by omega) hP.row (by omega) (by omega)).mono ?_; rw [hl1]; rintro e w1 ⟨rfl, hb1⟩; have hP1 := hP.but (S := fun _ => False) (But.of_below hb1) id id; have hml1 := mLess b w1 _ hP1.hd)
            refine (less_at _ _ g cap (2 * i + 2) i d' _ (by omega) (by omega) hP1.row (by omega) (by omega)).mono ?_
            rw [hl2]
            rintro e w2 ⟨rfl, hb2⟩
            have hP2 := hP1.but (S := fun _ => False) (But.of_below hb2) id id
            have hms2 := mSwap b w2 _ hP2.hd
            have hB2 : But (fun k => k = g) w w2 := hS.but.trans ((But.of_below hb1).trans (But.of_below hb2))
            go_wp2
            go_ret
            exact ⟨⟨_, rfl⟩, d', ⟨hP2, hB2, hS.perm, hS.rest⟩, HH⟩
          · have HH := hD.step KI.swo hL hl2 (by omega)
            have hml := mLess b wr _ hP.hd
            clear hD hL
            go_wp2_with (go_at_call 151; refine (less_at _ _ g cap (2 * i + 2) (2 * i + 1) d' _ (by omega) (by omega) hP.row (by omega) (by omega)).mono ?_; rw [hl1]; rintro e w1 ⟨rfl, hb1⟩; have hP1 := hP.but (S := fun _ => False) (But.of_below hb1) id id; have hml1 := mLess b w1 _ hP1.hd)
            refine (less_at _ _ g cap (2 * i + 2) i d' _ (by omega) (by omega) hP1.row (by omega) (by omega)).mono ?_
            rw [hl2]
            rintro e w2 ⟨rfl, hb2⟩
            have hP2 := hP1.but (S := fun _ => False) (But.of_below hb2) id id
            have hms2 := mSwap b w2 _ hP2.hd
            have hB2 : But (fun k => k = g) w w2 := hS.but.trans ((But.of_below hb1).trans (But.of_below hb2))
            go_wp2_with fail
            refine (swap_any _ _ g cap i (2 * i + 2) d' _ (by omega) (by omega) hP2.row (by omega) (by omega) (by omega)).mono ?_
            rintro e w3 ⟨rfl, hr3, hb3⟩
            have hs3 := Hp.swp_perm d' i (2 * i + 2) (by omega) (by omega)
            have hP3 := hP2.rows hb3 hr3 (size_swp _ _ _)
            have HR : ∀ x, n ≤ x → (swp d' i (2 * i + 2))[x]! = d[x]! := fun x hx => by rw [swp_other d' i (2 * i + 2) x (by omega) (by omega)]; exact hS.rest x hx
            go_wp2
            go_roundw
            case rel => exact ⟨2 * i + 2, _, congrArg (Value.int .i64) (by omega), by omega, ⟨hP3, hB2.trans hb3, hs3.trans hS.perm, HR⟩, HH⟩
            case measure => simp [intOf]; omega
      · have h2n : decide (2 * (i : Int) + 1 + 1 < (n : Int)) = false := decide_eq_false (by omega)
        have hL : Hp.Least KI.lt d' n i (2 * i + 1) := ⟨by unfold Hp.Child; omega, by omega, fun o ho hon => by
          unfold Hp.Child at ho
          rcases ho with rfl | rfl
          · exact KI.swo.irrefl _
          · exfalso; omega⟩
        cases hl2 : d'[2 * i + 1]!.lt d'[i]!
        · have HH := hD.stop KI.swo hL hl2
          have hml := mLess b wr _ hP.hd
          clear hD hL
          go_wp2_with fail
          refine (less_at _ _ g cap (2 * i + 1) i d' _ (by omega) (by omega) hP.row (by omega) (by omega)).mono ?_
          rw [hl2]
          rintro e w2 ⟨rfl, hb2⟩
          have hP2 := hP.but (S := fun _ => False) (But.of_below hb2) id id
          have hms2 := mSwap b w2 _ hP2.hd
          have hB2 : But (fun k => k = g) w w2 := hS.but.trans (But.of_below hb2)
          go_wp2
          go_ret
          exact ⟨⟨_, rfl⟩, d', ⟨hP2, hB2, hS.perm, hS.rest⟩, HH⟩
        · have HH := hD.step KI.swo hL hl2 (by omega)
          have hml := mLess b wr _ hP.hd
          clear hD hL
          go_wp2_with fail
          refine (less_at _ _ g cap (2 * i + 1) i d' _ (by omega) (by omega) hP.row (by omega) (by omega)).mono ?_
          rw [hl2]
          rintro e w2 ⟨rfl, hb2⟩
          have hP2 := hP.but (S := fun _ => False) (But.of_below hb2) id id
          have hms2 := mSwap b w2 _ hP2.hd
          have hB2 : But (fun k => k = g) w w2 := hS.but.trans (But.of_below hb2)
          go_wp2_with fail
          refine (swap_any _ _ g cap i (2 * i + 1) d' _ (by omega) (by omega) hP2.row (by omega) (by omega) (by omega)).mono ?_
          rintro e w3 ⟨rfl, hr3, hb3⟩
          have hs3 := Hp.swp_perm d' i (2 * i + 1) (by omega) (by omega)
          have hP3 := hP2.rows hb3 hr3 (size_swp _ _ _)
          have HR : ∀ x, n ≤ x → (swp d' i (2 * i + 1))[x]! = d[x]! := fun x hx => by rw [swp_other d' i (2 * i + 1) x (by omega) (by omega)]; exact hS.rest x hx
          go_wp2
          go_roundw
          case rel => exact ⟨2 * i + 1, _, congrArg (Value.int .i64) (by omega), by omega, ⟨hP3, hB2.trans hb3, hs3.trans hS.perm, HR⟩, HH⟩
          case measure => simp [intOf]; omega
    · have hge : (n : Int) ≤ 2 * (i : Int) + 1 := by omega
      have HE := hD.done (by omega)
      clear hD
      go_wp2
      go_ret
      exact ⟨⟨_, rfl⟩, d', hS, HE⟩
end Go.Proofs.Ythhechgjablklaa
