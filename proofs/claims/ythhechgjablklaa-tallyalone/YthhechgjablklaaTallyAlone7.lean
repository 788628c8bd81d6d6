/-
  Layer 7's law of operations one by one: the call returns true.
-/
import Derived.Test.YthhechgjablklaaAwake7
import Derived.Test.YthhechgjablklaaInts7
namespace Go.Proofs.Ythhechgjablklaa
open Go.RowKit Go.Sort

/-- What holds between two rounds. -/
def TA (w : World) (sb mb sh : Nat) (k : Nat) (sum : Int) (wr : World) : Prop :=
  ∃ (O : Nat → Prop) (M : Mem), St w wr sb [.int .i64 (sh : Int)] mb O M ∧ (sumTo M sh - sum) % 18446744073709551616 = 0 ∧ 0 ≤ sum ∧ sum ≤ (k : Int) * 4294967295 ∧ M.clock ≤ k ∧ M.len ≤ sh
theorem sumTo_empty : ∀ k, sumTo Mem.empty k = 0
  | 0 => rfl
  | k + 1 => by show sumTo Mem.empty k + 0 = 0; rw [sumTo_empty k]; rfl
theorem TA.tot {M : Mem} {sh : Nat} {sum : Int} (h : (sumTo M sh - sum) % 18446744073709551616 = 0) (h0 : 0 ≤ sum) (h1 : sum ≤ 1000000000000) : totTo M sh = sum := by
  rw [totTo_eq]; unfold wrap64; omega
theorem TA.add {M : Mem} {sh i : Nat} {sum v : Int} (h : (sumTo M sh - sum) % 18446744073709551616 = 0) (hi : i < sh) : (sumTo (M.put i (wrap64 ((M.cell i).n + v)) []) sh - (sum + v)) % 18446744073709551616 = 0 := by
  rw [sumTo_put, if_pos hi]; unfold wrap64; omega

set_option maxRecDepth 20000 in
set_option maxHeartbeats 8000000 in
theorem tallyAlone_any (a0 : Int) (a1 : Option Addr) (n1 c1 : Nat) (Z1 : Nat → Int) (a2 : Option Addr) (n2 c2 : Nat) (Z2 : Nat → Int) (w : World) (h1 : IntsIn w a1 n1 Z1) (h2 : IntsIn w a2 n2 Z2) (_hl1 : n1 ≤ 9223372036854775807) (_hl2 : n2 ≤ 9223372036854775807) :
    Calls Try.prog 12 #[.int .i64 a0, .slice a1 n1 c1, .slice a2 n2 c2] w fun e w' => e = .returned (.bool true) ∧ Below w.heap.size w w' := by
  have hA := awake7_any w
  have hsf := run_store_flt (P := Try.prog)
  have hr := into_rng (d := a0) (n := 16) (by decide)
  obtain ⟨j, hj⟩ : ∃ j : Nat, into a0 16 = (j : Int) := ⟨(into a0 16).toNat, by omega⟩
  obtain ⟨sh, hsh⟩ : ∃ sh : Nat, (1 : Int) + (j : Int) = (sh : Int) := ⟨1 + j, by omega⟩
  have hI := fun w => rinto_any a0 16 w (by decide)
  rw [hj] at hI hr
  have hs16 : 1 ≤ sh ∧ sh ≤ 16 := by omega
  have hN := fun w => tnew_any (sh : Int) w
  have hleg : legal 3 (sh : Int) = 0 := legal_ok (by decide) (by omega) (by omega)
  rw [if_pos hleg, hleg] at hN
  have hjb : (j : Int) ≤ 15 := by omega
  clear hj hr
  go_enter Try.func12, Try.ntmps12
  go_wp2_with fail
  refine hA.mono ?_
  rintro e w1 ⟨rfl, hb1⟩
  go_wp2_with fail
  refine (hI _).mono ?_
  rintro e w2 ⟨rfl, hw2⟩
  replace hw2 := hw2.symm
  subst hw2
  go_wp2_with fail
  refine (hN _).mono ?_
  rintro e w3 ⟨rfl, hb3⟩
  go_wp2_with fail
  refine (new5_any _).mono ?_
  rintro e w4 ⟨rfl, hM4, hb4⟩
  obtain ⟨sb, hsb⟩ : ∃ sb, w3.heap.size = sb := ⟨_, rfl⟩
  obtain ⟨mb, hmb⟩ : ∃ mb, (w3.alloc (.cells #[.int .i64 (sh : Int)] 103)).heap.size = mb := ⟨_, rfl⟩
  have hB3 : BoxAt (w3.alloc (.cells #[.int .i64 (sh : Int)] 103)) w3.heap.size [.int .i64 (sh : Int)] := BoxAt.new w3 [.int .i64 (sh : Int)] 103
  have hB4 := hB3.below hb4
  rw [hsb] at hB4
  rw [hmb] at hM4
  have hS0 : St w w4 sb [.int .i64 (sh : Int)] mb (fun k => k = mb) Mem.empty := by
    have s1 := hb1.size
    have s2 := hb3.size
    have s4 : mb = w3.heap.size + 1 := by rw [← hmb]; simp
    exact ⟨hM4, fun k e => by omega, hB4, ((hb1.trans (hb3.mono s1)).trans ((Below.refl _ _).alloc (by omega) _)).trans (hb4.mono (by rw [hmb]; omega))⟩
  rw [hmb, hsb]
  have HT0 := hidq (show TA w sb mb sh 0 0 w4 from ⟨_, _, hS0, by rw [sumTo_empty]; decide, Int.le_refl _, by decide, Nat.le_refl _, Nat.zero_le _⟩)
  clear hS0 hB4 hB3 hM4 hb4 hb1 hb3 hmb hsb hA hI hN hleg
  have hwl : Below w.heap.size w w4 := by obtain ⟨_, _, hS, _⟩ := HT0.out; exact hS.low
  have H1 := hidq (fun W (hW : Below w.heap.size w W) => h1.below hW)
  have H2 := hidq (fun W (hW : Below w.heap.size w W) => h2.below hW)
  clear h1 h2 hwl
  go_wp2_with fail
  go_loopw [10, 11] (fun s10 s11 wr => ∃ (k : Nat) (sum : Int), s10 = .int .i64 sum ∧ s11 = .int .i64 (k : Int) ∧ k ≤ n1 ∧ k ≤ 30 ∧ Hid (TA w sb mb sh k sum wr)) (fun _ s11 _ => 30 - (intOf s11).toNat)
  case atStart => exact ⟨0, 0, rfl, rfl, Nat.zero_le _, Nat.zero_le _, HT0⟩
  case round =>
    obtain ⟨k, sum, rfl, rfl, hk1, hk30, hT⟩ := hrel
    obtain ⟨O, M, hS, hmod, hs0, hs1, hck, hlen⟩ := hT.out
    clear HT0
    have HS := hidq hS
    by_cases hlt : k < n1 ∧ k < 30
    · obtain ⟨hlt1, hlt2⟩ := hlt
      obtain ⟨b1, o1, ha1, hb1l, hc1⟩ := H1.out _ hS.low k hlt1
      subst ha1
      have hx := i64_and32 (Z1 k)
      have hv : 0 ≤ Z1 k % 4294967296 ∧ Z1 k % 4294967296 ≤ 4294967295 := by omega
      obtain ⟨v, hve⟩ : ∃ v, Z1 k % 4294967296 = v := ⟨_, rfl⟩
      rw [hve] at hx hv
      obtain ⟨hv0, hv1⟩ := hv
      clear hve
      have r0 := (hS.box.get 0 _ rfl).1
      have hsum : sum ≤ 128849018850 := by omega
      clear hS
      have hlt3 : (k : Int) < 30 := by omega
      have hlt4 : (k : Int) < (n1 : Int) := by omega
      have HMOD := hidq hmod
      clear hmod
      by_cases hn2 : n2 = 0
      · subst hn2
        obtain ⟨i, hi⟩ : ∃ i : Nat, into (k : Int) (sh : Int) = (i : Int) := ⟨(into (k : Int) (sh : Int)).toNat, by have := into_rng (d := (k : Int)) (n := (sh : Int)) (by omega); omega⟩
        have hil : i < sh := by have := into_rng (d := (k : Int)) (n := (sh : Int)) (by omega); omega
        have HI := hidq (And.intro hi hil)
        clear hi hil
        go_wp2_with fail
        refine (add_any (sh : Int) (by omega) mb O M v (k : Int) 0 2 i HI.out.1 _ HS.out.mem (by decide) (by omega)).mono ?_
        rintro e w5 ⟨rfl, O5, hM5, hG5, hB5⟩
        have HS5 := hidq ((HS.out.call hM5 hG5 hB5).alloc (.cells #[.bool true, .float .f64 0, .int .i64 0, .int .i64 0] 98))
        have r5 := (HS5.out.box.get 0 _ rfl).1
        have hsm := sum_any sh hs16 mb O5 _ 0 0 (sh : Int) _ HS5.out.mem (by omega) (show M.clock + 1 < 4611686018427386000 by omega)
        rw [TA.tot (TA.add (v := v) HMOD.out HI.out.2) (by omega) (by omega)] at hsm
        have HSM := hidq hsm
        clear hM5 hG5 hB5 hsm
        go_wp2_with fail
        refine HSM.out.mono ?_
        rintro e w6 ⟨rfl, O6, hM6, hG6, hB6⟩
        have HS6 := hidq ((HS5.out.call hM6 hG6 hB6).alloc (.cells #[.bool true, .float .f64 0, .int .i64 0, .int .i64 (sum + v)] 98))
        have FIN := hidq (show TA w sb mb sh (k + 1) (sum + v) _ from ⟨_, _, HS6.out, TA.add (v := v) HMOD.out HI.out.2, by omega, by omega, (show M.clock + 1 ≤ k + 1 by omega), (show max M.len (i + 1) ≤ sh by have := HI.out.2; omega)⟩)
        have HK := hidq (And.intro hlt1 hlt2)
        clear hM6 hG6 hB6 HS6 HS5 r5 HSM hs1 hck hlen hc1 hb1l hx hT HS r0 hsh hjb
        go_wp2
        go_roundw
        case rel => exact ⟨k + 1, sum + v, rfl, by go_num, by have := HK.out; omega, by have := HK.out; omega, FIN⟩
        case measure => simp [intOf]; omega
      · have hn3 : (0 : Int) < (n2 : Int) := by omega
        have hkl : k % n2 < n2 := Nat.mod_lt _ (by omega)
        obtain ⟨b2, o2, ha2, hb2l, hc2⟩ := H2.out _ HS.out.low (k % n2) hkl
        subst ha2
        obtain ⟨i, hi⟩ : ∃ i : Nat, into (Z2 (k % n2)) (sh : Int) = (i : Int) := ⟨(into (Z2 (k % n2)) (sh : Int)).toNat, by have := into_rng (d := (Z2 (k % n2))) (n := (sh : Int)) (by omega); omega⟩
        have hil : i < sh := by have := into_rng (d := (Z2 (k % n2))) (n := (sh : Int)) (by omega); omega
        have HI := hidq (And.intro hi hil)
        clear hi hil
        go_wp2_with fail
        refine (add_any (sh : Int) (by omega) mb O M v (Z2 (k % n2)) 0 2 i HI.out.1 _ HS.out.mem (by decide) (by omega)).mono ?_
        rintro e w5 ⟨rfl, O5, hM5, hG5, hB5⟩
        have HS5 := hidq ((HS.out.call hM5 hG5 hB5).alloc (.cells #[.bool true, .float .f64 0, .int .i64 0, .int .i64 0] 98))
        have r5 := (HS5.out.box.get 0 _ rfl).1
        have hsm := sum_any sh hs16 mb O5 _ 0 0 (sh : Int) _ HS5.out.mem (by omega) (show M.clock + 1 < 4611686018427386000 by omega)
        rw [TA.tot (TA.add (v := v) HMOD.out HI.out.2) (by omega) (by omega)] at hsm
        have HSM := hidq hsm
        clear hM5 hG5 hB5 hsm
        go_wp2_with fail
        refine HSM.out.mono ?_
        rintro e w6 ⟨rfl, O6, hM6, hG6, hB6⟩
        have HS6 := hidq ((HS5.out.call hM6 hG6 hB6).alloc (.cells #[.bool true, .float .f64 0, .int .i64 0, .int .i64 (sum + v)] 98))
        have FIN := hidq (show TA w sb mb sh (k + 1) (sum + v) _ from ⟨_, _, HS6.out, TA.add (v := v) HMOD.out HI.out.2, by omega, by omega, (show M.clock + 1 ≤ k + 1 by omega), (show max M.len (i + 1) ≤ sh by have := HI.out.2; omega)⟩)
        have HK := hidq (And.intro hlt1 hlt2)
        clear hM6 hG6 hB6 HS6 HS5 r5 HSM hs1 hck hlen hc1 hb1l hx hT HS r0 hsh hjb
        go_wp2
        go_roundw
        case rel => exact ⟨k + 1, sum + v, rfl, by go_num, by have := HK.out; omega, by have := HK.out; omega, FIN⟩
        case measure => simp [intOf]; omega
    · have hnd : ¬ ((k : Int) < (n1 : Int)) ∨ ((k : Int) < (n1 : Int) ∧ ¬ ((k : Int) < 30)) := by omega
      have hL := hidq (len5_any mb O M wr hS.mem)
      have HB := hidq hS.low
      have hle : (M.len : Int) ≤ (sh : Int) := by omega
      clear hS HS hmod hck hs0 hs1 hlen
      rcases hnd with h | ⟨h, h'⟩
      · have hd1 : decide ((k : Int) < (n1 : Int)) = false := decide_eq_false h
        have hd2 : decide (k < n1) = false := decide_eq_false (by omega)
        go_wp2_with fail
        refine hL.out.mono ?_
        rintro e w5 ⟨rfl, hw5⟩
        replace hw5 := hw5.symm
        subst hw5
        go_wp2
        go_ret
        exact ⟨rfl, HB.out⟩
      · have hd1 : decide ((k : Int) < 30) = false := decide_eq_false h'
        have hd2 : decide (k < 30) = false := decide_eq_false (by omega)
        go_wp2_with fail
        refine hL.out.mono ?_
        rintro e w5 ⟨rfl, hw5⟩
        replace hw5 := hw5.symm
        subst hw5
        go_wp2
        go_ret
        exact ⟨rfl, HB.out⟩
end Go.Proofs.Ythhechgjablklaa
