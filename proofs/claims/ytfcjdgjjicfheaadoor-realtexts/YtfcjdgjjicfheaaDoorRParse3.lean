/-
  Layer 3: the document's Parse: contract.
-/
import Derived.Test.YtfcjdgjjicfheaaDoorRText3
namespace Go.Proofs.YtfcjdgjjicfheaaDoor
open Go.RowKit

/-- The bits that have a word, in their order. -/
def wlB : Nat → Nat
  | 0 => 0
  | 1 => 9223372036854775808
  | 2 => 9218868437227405312
  | 3 => 18442240474082181120
  | _ => 9221120237041090560
theorem wlB_yes {k : Nat} (h : k < 5) : wordB (txt (cbits (wlB k))) = some (wlB k) ∧ wlB k < 18446744073709551616 := by
  have : ∀ k : Fin 5, wordB (txt (cbits (wlB k.val))) = some (wlB k.val) ∧ wlB k.val < 18446744073709551616 := by decide +kernel
  exact this ⟨k, h⟩
theorem wlB_no {s : ByteArray} (h : ∀ k, k < 5 → ¬ txt (cbits (wlB k)) = s) : wordB s = none := by
  rcases hw : wordB s with _ | b
  · rfl
  · exfalso
    rcases word_cases hw with ⟨rfl, _⟩ | ⟨rfl, _⟩ | ⟨rfl, _⟩ | ⟨rfl, _⟩ | ⟨rfl, _⟩
    · exact h 0 (by decide) (by decide +kernel)
    · exact h 1 (by decide) (by decide +kernel)
    · exact h 2 (by decide) (by decide +kernel)
    · exact h 3 (by decide) (by decide +kernel)
    · exact h 4 (by decide) (by decide +kernel)
def RpEnd (s : ByteArray) (w : World) (e : Ending) (w' : World) : Prop :=
  Below w.heap.size w w' ∧ ∃ v : Int, e = .returned (.tuple #[.int .u64 v, .bool (rpv s).isSome]) ∧ ∀ b : Nat, rpv s = some b → v = (b : Int)

set_option maxHeartbeats 1000000 in
set_option maxRecDepth 100000 in
theorem rparse_any (s : ByteArray) (w : World) :
    Calls Tryd.prog 13 #[.string s] w fun e w' => RpEnd s w e w' := by
  go_enter Tryd.func13, Tryd.ntmps13
  go_wp2
  go_loop [11] (fun vi => ∃ k : Nat, vi = .int .i64 k ∧ k ≤ 5 ∧ Hid (∀ j, j < k → ¬ txt (cbits (wlB j)) = s))
    (fun vi => 5 - (intOf vi).toNat)
  case atStart => exact ⟨0, rfl, by omega, fun j hj => absurd hj (Nat.not_lt_zero _)⟩
  case round =>
    obtain ⟨k, rfl, hk, hh⟩ := hrel
    by_cases hk5 : k < 5
    · have hcell : (w.alloc (.cells #[.int .u64 0, .int .u64 9223372036854775808, .int .u64 9218868437227405312, .int .u64 18442240474082181120, .int .u64 9221120237041090560] 22)).cell? ⟨w.heap.size, k, none⟩ = some (.int .u64 (wlB k : Nat)) := by
        rw [World.cell?_alloc_new]
        rcases (show k = 0 ∨ k = 1 ∨ k = 2 ∨ k = 3 ∨ k = 4 by omega) with rfl | rfl | rfl | rfl | rfl <;> rfl
      obtain ⟨hw1, hw2⟩ := wlB_yes hk5
      have hRT := fun w => rtext_any (wlB k) ((wlB k : Nat) : Int) w rfl (by omega) (by omega)
      obtain ⟨wb, hwb⟩ : ∃ wb, wb = wlB k := ⟨_, rfl⟩
      obtain ⟨tx, htx⟩ : ∃ tx, tx = txt (cbits wb) := ⟨_, rfl⟩
      rw [← hwb] at hcell hRT hw1 hw2
      rw [← htx] at hRT hw1
      by_cases hx : tx = s
      · have hR : rpv s = some wb := by unfold rpv; rw [← hx, hw1]
        have hbq : (tx.toList == s.toList) = true := by rw [hx]; exact beq_self_eq_true _
        clear hwb htx hh hx hw1 hw2
        go_wp2_with (go_at_call 9; refine (hRT _).mono ?_; rintro e w1 ⟨rfl, hw1⟩; replace hw1 := hw1.symm; subst hw1)
        go_ret2
        refine ⟨(Below.refl _ _).alloc (Nat.le_refl _) _, _, by rw [hR]; rfl, ?_⟩
        intro b hb
        rw [hR] at hb
        injection hb with e
        rw [e]
      · have hbq : (tx.toList == s.toList) = false := bytes_ne hx
        have hh2 : Hid (∀ j, j < k + 1 → ¬ txt (cbits (wlB j)) = s) := by
          intro j hj
          rcases Nat.lt_succ_iff_lt_or_eq.1 hj with h | h
          · exact hh.out j h
          · subst h; rw [← hwb, ← htx]; exact hx
        clear hwb htx hh hx hw1 hw2
        go_wp2_with (go_at_call 9; refine (hRT _).mono ?_; rintro e w1 ⟨rfl, hw1⟩; replace hw1 := hw1.symm; subst hw1)
        exact ⟨⟨k + 1, by first | rfl | (congr 1; omega), by omega, hh2⟩, by simp [intOf]; omega⟩
    · have hk6 : k = 5 := by omega
      subst hk6
      have hno := wlB_no hh.out
      clear hh
      by_cases h16 : s.size = 16
      · obtain ⟨bs, hbs⟩ : ∃ bs, bs = s.data.toList := ⟨_, rfl⟩
        have hlen : bs.length = 16 := by rw [hbs, bytes_size, h16]
        have hR : rpv s = match rd16 0 bs with | some v => if cls v = 1 then some v else none | none => none := by
          unfold rpv; rw [hno, hbs]
          show (if s.size = 16 then (match rd16 0 s.data.toList with | some v => if cls v = 1 then some v else none | none => none) else none) = _
          rw [if_pos h16]
        have hidx : ∀ (k : Nat) (h : k < 16) (w : World), (Instr.index 9 (.string s) (.int .i64 k)).run Tryd.prog w = .ok (.int .u8 ((bs[k]'(by omega)).toNat : Nat)) w := by
          intro k h w
          rw [run_index_string _ _ _ _ _ Tryd.underlying9, dif_pos ⟨by omega, by omega⟩]
          subst hbs
          rfl
        have hszi : (s.size : Int) = 16 := by omega
        have HR := Lib.hid hR
        clear hR hno hbs
        go_wp2
        go_loop [7, 6] (fun vi vb => ∃ (k acc : Nat) (a : Int), vi = .int .i64 k ∧ vb = .int .u64 a ∧ k ≤ 16 ∧ Hid (a = (acc : Int) ∧ acc < 16 ^ k ∧ rd16 0 bs = rd16 acc (bs.drop k)))
          (fun vi _ => 16 - (intOf vi).toNat)
        case atStart => exact ⟨0, 0, 0, rfl, rfl, by omega, rfl, by decide, rfl⟩
        case round =>
          obtain ⟨k, acc, a, rfl, rfl, hk, hh⟩ := hrel
          obtain ⟨ha, hacc, hdec⟩ := hh.out
          clear hh
          by_cases hkn : k < 16
          · have hc := hidx k hkn
            have hdrop : bs.drop k = bs[k]'(by omega) :: bs.drop (k + 1) := List.drop_eq_getElem_cons (by omega)
            rw [hdrop] at hdec
            generalize bs[k]'(by omega) = c at hc hdec
            have hc256 : c.toNat < 256 := c.toNat_lt
            have hp15 : 16 ^ k ≤ 16 ^ 15 := Nat.pow_le_pow_right (by decide) (by omega)
            rw [show 16 ^ 15 = 1152921504606846976 by decide] at hp15
            have ha0 : 0 ≤ a := by omega
            have ha1 : a < 1152921504606846976 := by omega
            clear hdrop hidx
            rcases hd : ldig c with _ | d
            · have hF : rd16 acc (c :: bs.drop (k + 1)) = none := by
                unfold rd16; rw [hd]
              rw [hF] at hdec
              have hno : (c.toNat : Int) < 48 ∨ (57 < (c.toNat : Int) ∧ (c.toNat : Int) < 97) ∨ 102 < (c.toNat : Int) := by
                unfold ldig at hd
                split at hd
                · cases hd
                split at hd
                · cases hd
                omega
              clear hF hd hacc ha hp15
              rcases hno with h | ⟨h, h'⟩ | h
              all_goals go_wp2
              all_goals go_ret2
              all_goals exact ⟨(Below.refl _ _).alloc (Nat.le_refl _) _, 0, by rw [HR.out, hdec]; rfl, fun b hb => by rw [HR.out, hdec] at hb; cases hb⟩
            · have hF : rd16 acc (c :: bs.drop (k + 1)) = rd16 (acc * 16 + d) (bs.drop (k + 1)) := by
                show (match ldig c with | none => none | some d => rd16 (acc * 16 + d) (bs.drop (k + 1))) = _
                rw [hd]
              have hd16 := (hexd_ldig hd).1
              have HN : Hid (16 * a + (d : Int) = ((acc * 16 + d : Nat) : Int) ∧ acc * 16 + d < 16 ^ (k + 1) ∧ rd16 0 bs = rd16 (acc * 16 + d) (bs.drop (k + 1))) := Lib.hid ⟨by omega, by rw [Nat.pow_succ]; omega, hdec.trans hF⟩
              have hyes : (48 ≤ (c.toNat : Int) ∧ (c.toNat : Int) ≤ 57 ∧ (c.toNat : Int) = (d : Int) + 48) ∨ (97 ≤ (c.toNat : Int) ∧ (c.toNat : Int) ≤ 102 ∧ (c.toNat : Int) = (d : Int) + 87) := by
                unfold ldig at hd
                split at hd
                · injection hd; omega
                split at hd
                · injection hd; omega
                cases hd
              clear hF hd hacc ha hp15 hdec
              rcases hyes with ⟨h1, h2, h3⟩ | ⟨h1, h2, h3⟩
              · go_wp2
                have hwr : IntKind.u64.wrap (IntKind.u64.wrap (16 * a + ((d : Int) + 48)) - 48) = 16 * a + (d : Int) := by
                  rw [IntKind.wrap_u64, IntKind.wrap_u64]; omega
                exact ⟨⟨k + 1, acc * 16 + d, 16 * a + (d : Int), by first | rfl | (congr 1; omega), by rw [hwr], by omega, HN⟩, by simp [intOf]; omega⟩
              · go_wp2
                have hwr : IntKind.u64.wrap (IntKind.u64.wrap (16 * a + ((d : Int) + 87)) - 87) = 16 * a + (d : Int) := by
                  rw [IntKind.wrap_u64, IntKind.wrap_u64]; omega
                exact ⟨⟨k + 1, acc * 16 + d, 16 * a + (d : Int), by first | rfl | (congr 1; omega), by rw [hwr], by omega, HN⟩, by simp [intOf]; omega⟩
          · have hkk : k = 16 := by omega
            subst hkk
            have hF : rd16 acc (bs.drop 16) = some acc := by rw [List.drop_eq_nil_of_le (by omega)]; rfl
            rw [hF] at hdec
            rw [show 16 ^ 16 = 18446744073709551616 by decide] at hacc
            have ha0 : 0 ≤ a := by omega
            have ha1 : a < 18446744073709551616 := by omega
            have hRC := fun w => rclass_any a w ha0 ha1
            rw [show nf a = acc by rw [ha]; rfl] at hRC
            have hR2 : rpv s = if cls acc = 1 then some acc else none := by rw [HR.out, hdec]
            clear hF hidx hdec HR hacc
            by_cases hcl : cls acc = 1
            · rw [hcl] at hRC
              rw [if_pos hcl] at hR2
              have HA := Lib.hid ha
              have HR2 := Lib.hid hR2
              clear hcl ha hR2
              go_wp2_with (go_at_call 25; refine (hRC _).mono ?_; rintro e w1 ⟨rfl, hw1⟩; replace hw1 := hw1.symm; subst hw1)
              go_ret2
              exact ⟨(Below.refl _ _).alloc (Nat.le_refl _) _, _, by rw [HR2.out]; rfl, fun b hb => by rw [HR2.out] at hb; injection hb with e; rw [HA.out, e]⟩
            · rw [if_neg hcl] at hR2
              have HR2 := Lib.hid hR2
              generalize cls acc = cl at hRC hcl
              clear ha hR2
              go_wp2_with (go_at_call 25; refine (hRC _).mono ?_; rintro e w1 ⟨rfl, hw1⟩; replace hw1 := hw1.symm; subst hw1)
              go_ret2
              exact ⟨(Below.refl _ _).alloc (Nat.le_refl _) _, a, by rw [HR2.out]; simp [hcl], fun b hb => by rw [HR2.out] at hb; cases hb⟩
      · have hR : rpv s = none := by unfold rpv; rw [hno, if_neg h16]
        have h16i : ¬ (s.size : Int) = 16 := by omega
        clear h16 hno
        go_wp2
        go_ret2
        refine ⟨(Below.refl _ _).alloc (Nat.le_refl _) _, _, by rw [hR]; rfl, ?_⟩
        intro b hb
        rw [hR] at hb
        cases hb
end Go.Proofs.YtfcjdgjjicfheaaDoor
