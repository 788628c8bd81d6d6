/-
  The document's list in order: of any items; and whether items are the document's.
-/
import Derived.Test.YtogacknpkoiokaaWith4
namespace Go.Proofs.Ytogacknpkoiokaa
open Go.RowKit Go.Sort

/-- Items in the making, as the document's: canonical or not. -/
def RawAt (w : World) (g : Nat) (n : Nat) (P V : Nat → Int) : Prop :=
  g < w.heap.size ∧ ∀ i, i < n → w.cell? ⟨g, i * 2, none⟩ = some (.int .u64 (P i)) ∧ w.cell? ⟨g, i * 2 + 1, none⟩ = some (.int .i64 (V i)) ∧ 0 ≤ P i ∧ P i < 18446744073709551616

def rsrt (P V : Nat → Int) (n : Nat) : List KI := (List.range n).foldl (fun L i => wth (kiOf P V i) L) []
theorem rsrt_succ (P V : Nat → Int) (n : Nat) : rsrt P V (n + 1) = wth (kiOf P V n) (rsrt P V n) := by simp [rsrt, List.range_succ]
theorem rsrt_length (P V : Nat → Int) : ∀ n, (rsrt P V n).length = n
  | 0 => rfl
  | n + 1 => by rw [rsrt_succ, wth_length, rsrt_length P V n]

set_option maxHeartbeats 1000000 in
theorem rsorted_any (g cap n : Nat) (P V : Nat → Int) (w : World) (h : RawAt w g n P V) (hn : n ≤ 1000000) :
    Calls Try.prog 23 #[.slice (some ⟨g, 0, none⟩) n cap] w fun e w' => ∃ g' cap', e = .returned (.slice (some ⟨g', 0, none⟩) n cap') ∧ w.heap.size ≤ g' ∧ Flat 2 w' g' cap' n (flatR (rsrt P V n)) ∧ Below w.heap.size w w' := by
  have hglt := h.1
  go_enter Try.func23, Try.ntmps23
  go_wp2
  go_loopw [3, 9] (fun o c wr => ∃ (k g' cap' : Nat), c = .int .i64 (k : Int) ∧ k ≤ n ∧ o = .slice (some ⟨g', 0, none⟩) k cap' ∧ w.heap.size ≤ g' ∧ Flat 2 wr g' cap' k (flatR (rsrt P V k)) ∧ Below w.heap.size w wr) (fun _ c _ => n - (intOf c).toNat)
  case atStart =>
    exact ⟨0, w.heap.size, 0, rfl, Nat.zero_le _, rfl, Nat.le_refl _, Flat.new w [] 35 2 0 rfl (Nat.zero_le _) (fun _ h => (by cases h)), (Below.refl _ _).alloc (Nat.le_refl _) _⟩
  case round =>
    obtain ⟨k, g', cap', rfl, hk, rfl, hg', hF, hB⟩ := hrel
    by_cases hlt : k < n
    · obtain ⟨c0, c1, p0, p1⟩ := h.2 k hlt
      have hc0 := (hB.cell (p := ⟨g, k * 2, none⟩) hglt).trans c0
      have hc1 := (hB.cell (p := ⟨g, k * 2 + 1, none⟩) hglt).trans c1
      have hk1 : (k : Int) < (n : Int) := by omega
      have hmk := hidd (fun w => make_any (P k) (V k) w p0 p1)
      have hkb : (kiOf P V k).b = cbits (nf (P k)) := mkKI_b (nf_lt p1) _
      have hkv : (kiOf P V k).v = V k := mkKI_v (nf_lt p1) _
      have hS : rsrt P V (k + 1) = wth (kiOf P V k) (rsrt P V k) := rsrt_succ P V k
      have hL := rsrt_length P V k
      have hwi := hidd (fun (wx : World) (hx : Flat 2 wx g' cap' (rsrt P V k).length (flatR (rsrt P V k))) => with_any g' cap' (rsrt P V k) (kiOf P V k) wx hx (by omega))
      rw [hL, ← hS, hkb, hkv] at hwi
      have HF := hidd hF
      clear hS hL hkb hkv hF c0 c1 p0 p1
      generalize ni (cbits (nf (P k))) = q at hmk hwi
      generalize P k = pk at hc0 hc1 hmk hwi
      generalize V k = vk at hc0 hc1 hmk hwi
      go_wp2_with fail
      refine (hmk.out _).mono ?_
      rintro e w3 ⟨rfl, hb3⟩
      have hB3 : But (fun _ => False) wr w3 := ((But.refl _ _).alloc _).trans (But.of_below hb3)
      go_wp2_with fail
      refine (hwi.out w3 (HF.out.but hB3 id)).mono ?_
      rintro e w4 ⟨g2, cap2, rfl, hg2, hF2, hb4⟩
      have hB4 := hB3.trans (But.of_below hb4)
      have HF2 := hidd hF2
      clear hF2 hmk hwi
      go_wp2
      refine ⟨⟨k + 1, g2, cap2, rfl, by omega, rfl, by have := hB.size; have := hB3.size; omega, HF2.out, hB.trans (hB4.below hB.size (fun _ e => e.elim))⟩, ?_⟩
      simp [intOf]; omega
    · have hkn : k = n := by omega
      subst hkn
      have HF := hidd hF
      clear hF
      go_wp2
      go_ret
      exact ⟨g', cap', rfl, hg', HF.out, hB⟩

/-- Two rows hold the same items. -/
theorem isV_same (x : KI) : isV x.b x.v (ni x.b) x.v = 0 := if_pos ⟨rfl, rfl⟩
set_option maxHeartbeats 1000000 in
theorem are_any (g1 c1 g2 c2 n : Nat) (L : List KI) (w : World) (h1 : Row w g1 c1 L.toArray) (h2 : Flat 2 w g2 c2 n (flatR L)) (hL : L.length = n) :
    Calls Try.prog 21 #[.slice (some ⟨g1, 0, none⟩) n c1, .slice (some ⟨g2, 0, none⟩) n c2] w fun e w' => e = .returned (.int .i64 0) ∧ Below w.heap.size w w' := by
  have hl1 := h1.lt
  have hl2 := h2.lt
  have hnn : n ≤ 1099511627776 := by have := h1.max; simpa [hL] using this
  go_enter Try.func21, Try.ntmps21
  go_wp2
  go_loopw [13] (fun c wr => ∃ (k : Nat), c = .int .i64 (k : Int) ∧ k ≤ n ∧ Below w.heap.size w wr) (fun c _ => n - (intOf c).toNat)
  case atStart => exact ⟨0, rfl, Nat.zero_le _, Below.refl _ _⟩
  case round =>
    obtain ⟨k, rfl, hk, hB⟩ := hrel
    by_cases hlt : k < n
    · have hkl : k < L.length := by omega
      have e0 := (hB.cell (p := ⟨g1, k * 2, none⟩) hl1).trans (h1.flt k (by simpa using hkl))
      have e1 := (hB.cell (p := ⟨g1, k * 2 + 1, none⟩) hl1).trans (h1.val k (by simpa using hkl))
      have f0 := (hB.cell (p := ⟨g2, k * 2, none⟩) hl2).trans (h2.cell _ _ (flatR_get L k hkl).1)
      have f1 := (hB.cell (p := ⟨g2, k * 2 + 1, none⟩) hl2).trans (h2.cell _ _ (flatR_get L k hkl).2)
      have hx : L.toArray[k]! = L[k] := by rw [getElem!_pos L.toArray k (by simpa using hkl)]; rfl
      rw [hx] at e0 e1
      generalize L[k] = x at *
      have his := hidd (fun w => is_any x.b x.v (ni x.b) x.v w)
      rw [isV_same] at his
      have k1 : (k : Int) < (n : Int) := by omega
      clear hx
      go_wp2
      go_region_with (go_at_call 18; refine (his.out _).mono ?_; rintro e w3 ⟨rfl, hb3⟩)
      all_goals go_wp2
      all_goals exact ⟨⟨k + 1, rfl, by omega, hB.trans ((((But.refl (fun _ => False) wr).drew).trans (But.of_below hb3)).below hB.size (fun _ e => e.elim))⟩, by simp [intOf]; omega⟩
    · have hkn : k = n := by omega
      subst hkn
      go_wp2
      go_ret
      exact ⟨rfl, hB⟩
end Go.Proofs.Ytogacknpkoiokaa
