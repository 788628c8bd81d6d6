/-
  Layer 4's answers that the document fixes: the call returns true.
-/
import Derived.Test.YthhechgjablklaaPileA
namespace Go.Proofs.Ythhechgjablklaa
open Go.RowKit Go.Sort

def aP (i : Nat) : Nat := if i = 0 then 4611686018427387904 else 18442240474082181120
def aV (i : Nat) : Int := if i = 0 then 1 else 7
theorem aArr : (canArr aP aV 2 2).toList = [mkKI 4611686018427387904 1, mkKI 18442240474082181120 7] := by
  simp [canArr, aP, aV, Array.range]
theorem a_lt : (mkKI 18442240474082181120 7).lt (mkKI 4611686018427387904 1) = true := by decide
theorem a_first {d : Array KI} (hp : d.toList.Perm (canArr aP aV 2 2).toList) (hf : ∀ y ∈ d.toList, y.lt d[0]! = false) : d[0]! = mkKI 18442240474082181120 7 ∧ d.size = 2 := by
  rw [aArr] at hp
  have hs : d.size = 2 := by have := hp.length_eq; simpa using this
  refine ⟨?_, hs⟩
  have hm := hp.mem_iff.1 (first_mem (d := d) (by omega))
  have hy : mkKI 18442240474082181120 7 ∈ d.toList := hp.mem_iff.2 (by simp)
  have h0 := hf _ hy
  simp only [List.mem_cons, List.not_mem_nil, or_false] at hm
  rcases hm with e | e
  · rw [e, a_lt] at h0; cases h0
  · exact e

set_option maxHeartbeats 1000000 in
theorem awake4_any (w : World) : Calls Try.prog 16 #[] w fun e w' => e = .returned (.bool true) ∧ Below w.heap.size w w' := by
  have hi2 := infN_neg
  have hI : Items (w.alloc (.cells #[.float .f64 4611686018427387904, .int .i64 1, .float .f64 18442240474082181120, .int .i64 7] 29)) (some ⟨w.heap.size, 0, none⟩) 2 aP aV := by
    intro i hi
    refine ⟨w.heap.size, rfl, by simp, ?_, ?_, ?_⟩
    · rw [World.cell?_alloc_new]; rcases i with _ | _ | i <;> first | rfl | omega
    · rw [World.cell?_alloc_new]; rcases i with _ | _ | i <;> first | rfl | omega
    · rcases i with _ | _ | i <;> first | decide | omega
  have hN := new_any (some ⟨w.heap.size, 0, none⟩) 2 2 aP aV _ hI (by decide)
  have hsf := run_store_float (P := Try.prog)
  clear hI
  go_enter Try.func16, Try.ntmps16
  go_wp2_with (first
    | (go_at_call 56; refine (inf_any _ _).mono ?_; rintro e w1 ⟨rfl, hw1⟩; replace hw1 := hw1.symm; subst hw1)
    | (go_at_call 20; refine hN.mono ?_; rintro e w1 ⟨b, g, d, rfl, hb, hg, hH, hp, hB⟩))
  obtain ⟨hd0, hsz⟩ := a_first hp hH.first
  have hF := first_some b g d w1 hH (by omega)
  rw [hd0, mkKI_b (by decide), mkKI_v (by decide), show cbits 18442240474082181120 = 18442240474082181120 by decide] at hF
  have hb1 : w.heap.size + 1 ≤ b := by simpa using hb
  have hBw : Below w.heap.size w w1 := ((Below.refl _ _).alloc (Nat.le_refl _) _).trans (hB.mono (by simp))
  clear hN hp hd0
  refine hF.mono ?_
  rintro e w2 ⟨rfl, hB2⟩
  have hCt : ∀ W, But (fun _ => False) w2 W → Calls Try.prog 25 #[.pointer (some ⟨b, 0, none⟩)] W fun e w' => e = .returned (.int .i64 2) ∧ w' = W := fun W hW => by
    have := count_any b g d W (hH.but ((But.of_below hB2).trans hW) id id)
    rw [hsz] at this; exact this
  have hBw2 : Below w.heap.size w w2 := hBw.trans (hB2.mono hBw.size)
  have ho : FloatKind.f64.format.order 18442240474082181120 18442240474082181120 = some Ordering.eq := by decide
  have hef := fun d a b w => run_equalIn_float (P := Try.prog) d 27 a b w Try.underlying27
  have hq : Op.floatEq .f64 18442240474082181120 18442240474082181120 = true := by decide
  clear hF hH hB hB2 hsz
  go_wp2
  go_quiet ((first
    | (go_at_call 56; exact Calls.quiet_of_same (inf_any _ _))
    | (go_at_call 25; exact Calls.quiet_of_same (hCt _ (((But.refl _ w2).alloc _).drewN _)))))
  go_wp2
  go_ret
  exact ⟨rfl, below_drewN (hBw2.trans ((Below.refl _ _).alloc hBw2.size _)) _⟩
end Go.Proofs.Ythhechgjablklaa
