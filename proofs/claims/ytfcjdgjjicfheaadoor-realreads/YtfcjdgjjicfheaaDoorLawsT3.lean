/-
  Layer 3: RealTexts: contract.
-/
import Derived.Test.YtfcjdgjjicfheaaDoorRParse3
import Derived.Test.YtfcjdgjjicfheaaDoorAwake3
namespace Go.Proofs.YtfcjdgjjicfheaaDoor
open Go.RowKit

/-- What the library's variables hold. -/
structure Env3 (w : World) : Prop where
  tab : w.cell? ⟨6, 15, none⟩ = some (.int .u8 4)
  e2 : IsErr w 2
  e3 : IsErr w 3
theorem Env3.size {w : World} (h : Env3 w) : 6 < w.heap.size := World.block_lt_of_cell? _ _ h.tab
theorem Env3.below {w w' : World} (h : Env3 w) (hb : Below w.heap.size w w') : Env3 w' :=
  ⟨(hb.cell (show (⟨6, 15, none⟩ : Addr).block < w.heap.size from h.size)).trans h.tab, h.e2.below hb, h.e3.below hb⟩

set_option maxHeartbeats 1000000 in
set_option maxRecDepth 100000 in
theorem realTexts_any (x : Int) (w : World) (hx0 : 0 ≤ x) (hx1 : x < 18446744073709551616) (hE : Env3 w) :
    Calls Tryd.prog 3 #[.int .u64 x] w fun e w' => e = .returned (.bool true) ∧ Below w.heap.size w w' := by
  have hn := nf_lt hx1
  have hsz : (txt (cbits (nf x))).size ≤ 281474976710656 := by
    rcases txt_cases (cbits (nf x)) with ⟨s, h1, h2⟩ | ⟨_, _, _, _, _, h2⟩
    · rw [h2]
      rcases word_cases h1 with ⟨rfl, _⟩ | ⟨rfl, _⟩ | ⟨rfl, _⟩ | ⟨rfl, _⟩ | ⟨rfl, _⟩ <;> decide
    · rw [h2, hexS_size]; decide
  have hP : ∀ w, Env3 w → Calls Tryd.prog 8 #[.string (txt (cbits (nf x)))] w fun e w' => Below w.heap.size w w' ∧ e = .returned (.tuple #[.float .f64 (cbits (nf x)), .int .i64 0]) := fun w hE => by
    have := parse_any _ hsz w hE.tab hE.size hE.e2 hE.e3
    unfold PvEnd at this
    rw [pv_txt hn] at this
    exact this
  have hR : ∀ w, Calls Tryd.prog 9 #[.int .u64 x] w fun e w' => e = .returned (.string (txt (cbits (nf x)))) ∧ w' = w := fun w => rtext_any (nf x) x w (ni_nf hx0).symm hx0 hx1
  have hT : ∀ w, Env3 w → Calls Tryd.prog 6 #[.float .f64 (nf x)] w fun e w' => e = .returned (.string (txt (cbits (nf x)))) ∧ Below w.heap.size w w' := fun w hE => text_any _ w hn hE.tab hE.size
  have hB : ∀ w, Calls Tryd.prog 11 #[.int .u64 x] w fun e w' => e = .returned (.int .u64 (ni (cbits (nf x)))) ∧ w' = w := fun w => rbits_any x w hx0 hx1
  have hFb := fun w => run_bits (cbits (nf x)) w
  have hF := fun w => f_any x w
  clear hsz hn
  generalize cbits (nf x) = c at hP hR hT hB hFb
  generalize txt c = tx at hP hR hT
  generalize nf x = n at hT hF
  generalize ni c = ci at hB hFb
  have ht := hE.tab
  have hN := hE.size
  have HE := Lib.hid hE
  clear hE
  go_enter Tryd.func3, Tryd.ntmps3
  go_wp2_with (first
    | (go_at_call 5; refine (awake3_any _ ht hN).mono ?_; rintro e w2 ⟨rfl, hb2⟩; have HE2 := Lib.hid (HE.out.below hb2); clear ht hN)
    | (go_at_call 7; refine (hF _).mono ?_; rintro e w1 ⟨rfl, hw1⟩; replace hw1 := hw1.symm; subst hw1)
    | (go_at_call 6; refine (hT _ HE2.out).mono ?_; rintro e w3 ⟨rfl, hb3⟩; have HE3 := Lib.hid (HE2.out.below hb3))
    | (go_at_call 8; refine (hP _ HE3.out).mono ?_; rintro e w4 ⟨hb4, rfl⟩)
    | (go_at_call 9; refine (hR _).mono ?_; rintro e w1 ⟨rfl, hw1⟩; replace hw1 := hw1.symm; subst hw1)
    | (go_at_call 11; refine (hB _).mono ?_; rintro e w1 ⟨rfl, hw1⟩; replace hw1 := hw1.symm; subst hw1))
  go_ret
  exact ⟨by simp, hb2.trans ((hb3.trans (hb4.mono hb3.size)).mono hb2.size)⟩
end Go.Proofs.YtfcjdgjjicfheaaDoor
