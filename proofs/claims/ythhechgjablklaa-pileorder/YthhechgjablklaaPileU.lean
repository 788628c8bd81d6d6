/-
  Layer 4: the library's heap, sifting up: contract.
-/
import Derived.Test.YthhechgjablklaaPileD
namespace Go.Proofs.Ythhechgjablklaa
open Go.RowKit Go.Sort

set_option maxHeartbeats 1000000 in
theorem up_any (b g cap j0 : Nat) (d : Array KI) (w : World) (h : PileAt w b g cap d) (hj0 : j0 < d.size) (hu : Hp.Up KI.lt d d.size j0) :
    Calls Try.prog 87 #[.iface 132 (.pointer (some ⟨b, 0, none⟩)), .int .i64 (j0 : Int)] w fun e w' => e = .returned (.tuple #[]) ∧ ∃ d', Sift w w' b g cap d.size d d' ∧ Hp.Heap KI.lt d' d.size 0 := by
  have hmax := h.row.max
  have hle := h.row.le
  obtain ⟨n, hn⟩ : ∃ n, n = d.size := ⟨_, rfl⟩
  rw [← hn] at hj0 hu hle hmax ⊢
  go_enter Try.func87, Try.ntmps87
  go_wp2
  go_loopw [1] (fun a wr => ∃ (j : Nat) (d' : Array KI), a = .int .i64 (j : Int) ∧ j < n ∧ Sift w wr b g cap n d d' ∧ Hp.Up KI.lt d' n j) (fun a _ => (intOf a).toNat)
  case atStart => exact ⟨j0, d, rfl, hj0, ⟨h, But.refl _ _, List.Perm.refl _, fun _ _ => rfl⟩, hu⟩
  case round =>
    obtain ⟨j, d', rfl, hjn, hS, hU⟩ := hrel
    have hnd : n = d'.size := by rw [hS.size]; exact hn
    have hnd2 : n ≤ d'.size := by omega
    have HN : Hid (n = d'.size) := hnd
    clear hnd
    have hP := hS.pile
    have hml := mLess b wr _ hP.hd
    rcases j with _ | k
    · have HH := hU.top
      clear hU
      go_wp2
      go_end0
      exact ⟨rfl, d', hS, HH⟩
    · have hne : ((k : Int) / 2 == (k : Int) + 1) = false := by simp; omega
      have hC : Hp.Child (k + 1) (k / 2) := by unfold Hp.Child; omega
      have hk40 : (k : Int) ≤ 1099511627776 := by omega
      cases hl : d'[k + 1]!.lt d'[k / 2]!
      · have HH := hU.stop hC hl
        clear hU hC
        go_wp2_with (go_at_call 151; refine (less_at _ _ g cap (k + 1) (k / 2) d' _ (by omega) (by omega) hP.row (by omega) (by omega)).mono ?_; rw [hl]; rintro e w1 ⟨rfl, hb1⟩; have hP1 := hP.but (S := fun _ => False) (But.of_below hb1) id id)
        go_end0
        exact ⟨rfl, d', ⟨hP1, hS.but.trans (But.of_below hb1), hS.perm, hS.rest⟩, HH⟩
      · have HH := hU.step KI.swo hC hl hjn hnd2
        clear hU hC
        go_wp2_with (go_at_call 151; refine (less_at _ _ g cap (k + 1) (k / 2) d' _ (by omega) (by omega) hP.row (by omega) (by omega)).mono ?_; rw [hl]; rintro e w1 ⟨rfl, hb1⟩; have hP1 := hP.but (S := fun _ => False) (But.of_below hb1) id id; have hms1 := mSwap b w1 _ hP1.hd)
        refine (swap_any _ _ g cap (k / 2) (k + 1) d' _ (by omega) (by omega) hP1.row (by omega) (by omega) (by omega)).mono ?_
        rintro e w3 ⟨rfl, hr3, hb3⟩
        have hs3 := Hp.swp_perm d' (k / 2) (k + 1) (by omega) (by omega)
        have hP3 := hP1.rows hb3 hr3 (size_swp _ _ _)
        have HR : ∀ x, n ≤ x → (swp d' (k / 2) (k + 1))[x]! = d[x]! := fun x hx => by rw [swp_other d' (k / 2) (k + 1) x (by omega) (by omega)]; exact hS.rest x hx
        go_wp2
        go_roundw
        case rel => exact ⟨k / 2, _, congrArg (Value.int .i64) (by omega), by omega, ⟨hP3, (hS.but.trans (But.of_below hb1)).trans hb3, hs3.trans hS.perm, HR⟩, HH⟩
        case measure => simp [intOf]; omega
end Go.Proofs.Ythhechgjablklaa
