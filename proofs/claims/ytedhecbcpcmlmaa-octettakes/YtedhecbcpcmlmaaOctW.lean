import Derived.Test.YtedhecbcpcmlmaaCrcW
import Derived.Test.YtedhecbcpcmlmaaSl
import Derived.Test.YtedhecbcpcmlmaaOctMath
namespace Go.Proofs.Ytedhecbcpcmlmaa
open Go.RowKit

theorem hid {p : Prop} (h : p) : Hid p := h

theorem plain8 : Sl.Plain1 Try.prog 36 5 := ⟨(Try.prog.info? 5).getD default, .int .u8 0, Try.underlying36, by kernel_rfl, by kernel_rfl, by kernel_rfl, by decide +kernel, rfl⟩

theorem or_u8 {n : Nat} (_h : n < 18446744073709551616) : bits BinOp.or IntKind.u8 ((n : Int) % 256) 128 = ((n % 128 + 128 : Nat) : Int) := by
  have e := u8_or_nat (n % 256) 128 (by omega) (by decide)
  rw [Oct.or128] at e
  rw [← e]; rfl

theorem cells_snoc (l : List UInt8) (y : Nat) (hy : y < 256) (x : Int) (hx : x = (y : Int)) : Sl.cells l ++ [.int .u8 x] = Sl.cells (l ++ [UInt8.ofNat y]) := by
  rw [Sl.cells_append, hx]
  simp [Sl.cells, Nat.mod_eq_of_lt hy]
theorem own_snoc {w : World} {v : Value} {xs : List Value} {l : List UInt8} {x : Int} (h : Sl.Own w v (xs ++ Sl.cells l ++ [.int .u8 x])) (y : Nat) (hy : y < 256) (hx : x = (y : Int)) : Sl.Own w v (xs ++ Sl.cells (l ++ [UInt8.ofNat y])) := by
  rw [List.append_assoc, cells_snoc l y hy x hx] at h; exact h

set_option maxRecDepth 10000 in
set_option maxHeartbeats 400000 in
theorem num_any (v : Value) (xs : List Value) (n : Nat) (w : World) (hown : Sl.Own w v xs) (hx : xs.length ≤ 549755813888) (hn : n < 18446744073709551616) :
    Calls Try.prog 19 #[v, .int .u64 (n : Int)] w fun e w' => ∃ v', e = .returned v' ∧ Sl.Own w' v' (xs ++ Sl.cells (Oct.numB 9 n)) ∧ Sl.Frame w w' v v' ∧ v' ≠ .slice none 0 0 := by
  go_enter Try.func19, Try.ntmps19
  go_wp2
  go_loopw [0, 1] (fun b m wr => ∃ (nk f : Nat) (out : List UInt8), m = .int .u64 (nk : Int) ∧ nk < 18446744073709551616 ∧ f ≤ 9 ∧ nk < 128 ^ (f + 1) ∧ out.length + f ≤ 9 ∧ Oct.numB 9 n = out ++ Oct.numB f nk ∧ Sl.Own wr b (xs ++ Sl.cells out) ∧ Sl.Frame w wr v b) (fun _ m _ => (intOf m).toNat)
  case atStart => exact ⟨n, 9, [], rfl, hn, by omega, by omega, by simp, rfl, by simpa [Sl.cells] using hown, Sl.Frame.refl _ _⟩
  case round =>
    obtain ⟨nk, f, out, rfl, hnk, hf, hpow, hout, hnum, ho, hfr⟩ := hrel
    have Hnum := hid hnum
    clear hnum hown
    by_cases hlt : 128 ≤ nk
    · obtain ⟨f', rfl⟩ : ∃ f', f = f' + 1 := by
        cases f with
        | zero => simp at hpow; omega
        | succ f' => exact ⟨f', rfl⟩
      have hor := or_u8 hnk
      go_wp2_with (at_builtin; refine Sl.wpList_append plain8 _ rfl (.tmp 7) (.tmp 11) 36 rfl u0 _ rfl (ho.alloc _) _ rfl 1 [_] (Sl.src_one _ 36 5 Try.underlying36 _ rfl 5) (.inl Nat.one_pos) ?hb ?_; (case hb => simp [Sl.cells_length]; omega); intro v' w' ho' hf' hn')
      go_round
      case rel =>
        refine ⟨nk / 128, f', out ++ [UInt8.ofNat (nk % 128 + 128)], by go_num, by omega, by omega, ?_, by simp; omega, ?_, own_snoc ho' (nk % 128 + 128) (by omega) (by omega), hfr.trans ((Sl.Frame.alloc _ _ _).trans hf')⟩
        · rw [Nat.pow_succ] at hpow
          exact Nat.div_lt_of_lt_mul (by omega)
        · rw [Hnum.out, Oct.numB_more f' (by omega)]; simp
      case measure => simp [intOf]; omega
    · have hs := Oct.numB_small f (n := nk) (by omega)
      have Hs := hid hs
      clear hs
      go_wp2_with (at_builtin; refine Sl.wpList_append plain8 _ rfl (.tmp 15) (.tmp 18) 36 rfl u0 _ rfl (ho.alloc _) _ rfl 1 [_] (Sl.src_one _ 36 5 Try.underlying36 _ rfl 5) (.inl Nat.one_pos) ?hb ?_; (case hb => simp [Sl.cells_length]; omega); intro v' w' ho' hf' hn')
      go_ret
      refine ⟨_, rfl, ?_, hfr.trans ((Sl.Frame.alloc _ _ _).trans hf'), hn'⟩
      rw [Hnum.out, Hs.out]
      exact own_snoc ho' nk (by omega) (by omega)

theorem own_empty (w : World) (t : TypeId) : Sl.Own (w.alloc (.cells #[] t)) (.slice (some ⟨w.heap.size, 0, none⟩) 0 0) [] :=
  .inr ⟨w.heap.size, 0, rfl, by simp, Nat.le_refl _, by decide, fun j u h => by simp at h, fun j h => absurd h (Nat.not_lt_zero _)⟩
theorem keeps_new {w w' : World} {o : Obj} {n c : Nat} {v' : Value} (h : Sl.Frame (w.alloc o) w' (.slice (some ⟨w.heap.size, 0, none⟩) n c) v') : Reg.Keeps w w' :=
  Below.trans (Below.alloc (Below.refl _ _) (Nat.le_refl _) o) (h.below (B := w.heap.size) (by simp) (fun k hk => by simp [Value.ownBlock] at hk; omega))
theorem str_of (w : World) (v : Value) (l : List UInt8) (h : Sl.Own w v (Sl.cells l)) : (convert 36 9 v).run Try.prog w = .ok (.string ⟨l.toArray⟩) w :=
  Sl.run_string w Try.underlying36 Try.underlying5 Try.underlying9 v l h

set_option maxRecDepth 10000 in
set_option maxHeartbeats 400000 in
theorem num2_any (n : Nat) (w : World) (hn : n < 18446744073709551616) :
    Calls Try.prog 24 #[.int .u64 (n : Int)] w fun e w' => e = .returned (.string ⟨(Oct.numB 9 n).toArray⟩) ∧ Reg.Keeps w w' := by
  go_enter Try.func24, Try.ntmps24
  go_wp2
  go_loopw [0, 3] (fun m b wr => ∃ (nk f : Nat) (out : List UInt8), m = .int .u64 (nk : Int) ∧ nk < 18446744073709551616 ∧ f ≤ 9 ∧ nk < 128 ^ (f + 1) ∧ out.length + f ≤ 9 ∧ Oct.numB 9 n = out ++ Oct.numB f nk ∧ Sl.Own wr b ([] ++ Sl.cells out) ∧ Sl.Frame (w.alloc (Obj.cells #[] 5)) wr (.slice (some ⟨w.heap.size, 0, none⟩) 0 0) b) (fun m _ _ => (intOf m).toNat)
  case atStart => exact ⟨n, 9, [], rfl, hn, by omega, by omega, by simp, rfl, own_empty _ _, Sl.Frame.refl _ _⟩
  case round =>
    obtain ⟨nk, f, out, rfl, hnk, hf, hpow, hout, hnum, ho, hfr⟩ := hrel
    have Hnum := hid hnum
    clear hnum
    by_cases hlt : 128 ≤ nk
    · obtain ⟨f', rfl⟩ : ∃ f', f = f' + 1 := by
        cases f with
        | zero => simp at hpow; omega
        | succ f' => exact ⟨f', rfl⟩
      go_wp2_with (at_builtin; refine Sl.wpList_append plain8 _ rfl (.tmp 7) (.tmp 12) 36 rfl u3 _ rfl (ho.alloc _) _ rfl 1 [_] (Sl.src_one _ 36 5 Try.underlying36 _ rfl 5) (.inl Nat.one_pos) ?hb ?_; (case hb => simp [Sl.cells_length]; omega); intro v' w' ho' hf' hn')
      go_round
      case rel =>
        refine ⟨nk / 128, f', out ++ [UInt8.ofNat (nk % 128 + 128)], by go_num, by omega, by omega, ?_, by simp; omega, ?_, own_snoc ho' (nk % 128 + 128) (by omega) (by omega), hfr.trans ((Sl.Frame.alloc _ _ _).trans hf')⟩
        · rw [Nat.pow_succ] at hpow
          exact Nat.div_lt_of_lt_mul (by omega)
        · rw [Hnum.out, Oct.numB_more f' (by omega)]; simp
      case measure => simp [intOf]; omega
    · have hs := Oct.numB_small f (n := nk) (by omega)
      have Hs := hid hs
      clear hs
      go_wp2_with (at_builtin; refine Sl.wpList_append plain8 _ rfl (.tmp 16) (.tmp 19) 36 rfl u3 _ rfl (ho.alloc _) _ rfl 1 [_] (Sl.src_one _ 36 5 Try.underlying36 _ rfl 5) (.inl Nat.one_pos) ?hb ?_; (case hb => simp [Sl.cells_length]; omega); intro v' w' ho' hf' hn'; have hst := str_of w' v' _ (own_snoc ho' nk (by omega) (by omega)))
      go_ret
      refine ⟨?_, keeps_new (hfr.trans ((Sl.Frame.alloc _ _ _).trans hf'))⟩
      rw [Hnum.out, Hs.out]; rfl

theorem pow256 (n k : Nat) : (n / 256 ^ k : Nat) = n / 2 ^ (8 * k) := by rw [show (256 : Nat) = 2 ^ 8 from rfl, ← Nat.pow_mul]

set_option maxRecDepth 10000 in
set_option maxHeartbeats 400000 in
theorem low32_any (v : Value) (xs : List Value) (n : Nat) (w : World) (hown : Sl.Own w v xs) (hx : xs.length ≤ 549755813888) (_hn : n < 4294967296) :
    Calls Try.prog 52 #[v, .int .u32 (n : Int), .int .i64 4] w fun e w' => ∃ v', e = .returned v' ∧ Sl.Own w' v' (xs ++ Sl.cells (Oct.fixB 4 n)) ∧ Sl.Frame w w' v v' ∧ v' ≠ .slice none 0 0 := by
  go_enter Try.func52, Try.ntmps52
  go_wp2
  go_loopw [0, 9] (fun b i wr => ∃ (k : Nat), k ≤ 4 ∧ i = .int .i64 (k : Int) ∧ Sl.Own wr b (xs ++ Sl.cells (Oct.fixB k n)) ∧ Sl.Frame w wr v b ∧ (0 < k → b ≠ .slice none 0 0)) (fun _ i _ => 4 - (intOf i).toNat)
  case atStart => exact ⟨0, by omega, rfl, by simpa [Oct.fixB, Sl.cells] using hown, Sl.Frame.refl _ _, fun h => absurd h (Nat.lt_irrefl _)⟩
  case round =>
    obtain ⟨k, hk, rfl, ho, hfr, hnn⟩ := hrel
    have Hnn := hid hnn
    clear hnn
    by_cases hlt : k < 4
    · have hl := Oct.fixB_length k n
      go_wp2_with (at_builtin; refine Sl.wpList_append plain8 _ rfl (.tmp 12) (.tmp 18) 36 rfl u0 _ rfl (ho.alloc _) _ rfl 1 [_] (Sl.src_one _ 36 5 Try.underlying36 _ rfl 5) (.inl Nat.one_pos) ?hb ?_; (case hb => simp [Sl.cells_length, hl]; omega); intro v' w' ho' hf' hn')
      go_round
      case rel =>
        refine ⟨k + 1, by omega, by go_num, ?_, hfr.trans ((Sl.Frame.alloc _ _ _).trans hf'), fun _ => hn'⟩
        rw [Oct.fixB_snoc, ← Oct.byte_wrap]
        exact own_snoc ho' (n / 256 ^ k % 256) (by omega) (by rw [pow256]; go_num)
      case measure => simp [intOf]; omega
    · have hk4 : k = 4 := by omega
      subst hk4
      go_wp2
      go_ret
      exact ⟨_, rfl, ho, hfr, Hnn.out (by omega)⟩

set_option maxHeartbeats 400000 in
theorem word_any (v : Value) (xs : List Value) (n : Nat) (w : World) (hown : Sl.Own w v xs) (hx : xs.length ≤ 549755813888) (hn : n < 4294967296) :
    Calls Try.prog 25 #[v, .int .u32 (n : Int)] w fun e w' => ∃ v', e = .returned v' ∧ Sl.Own w' v' (xs ++ Sl.cells (Oct.fixB 4 n)) ∧ Sl.Frame w w' v v' ∧ v' ≠ .slice none 0 0 := by
  go_enter Try.func25, Try.ntmps25
  go_wp2_with fail
  refine (low32_any v xs n _ hown hx hn).mono ?_
  rintro e w' ⟨v', rfl, h⟩
  go_wp2
  go_ret
  exact ⟨_, rfl, h⟩

set_option maxRecDepth 10000 in
set_option maxHeartbeats 400000 in
theorem low64_any (v : Value) (xs : List Value) (n : Nat) (w : World) (hown : Sl.Own w v xs) (hx : xs.length ≤ 549755813888) (_hn : n < 18446744073709551616) :
    Calls Try.prog 53 #[v, .int .u64 (n : Int), .int .i64 8] w fun e w' => ∃ v', e = .returned v' ∧ Sl.Own w' v' (xs ++ Sl.cells (Oct.fixB 8 n)) ∧ Sl.Frame w w' v v' ∧ v' ≠ .slice none 0 0 := by
  go_enter Try.func53, Try.ntmps53
  go_wp2
  go_loopw [0, 9] (fun b i wr => ∃ (k : Nat), k ≤ 8 ∧ i = .int .i64 (k : Int) ∧ Sl.Own wr b (xs ++ Sl.cells (Oct.fixB k n)) ∧ Sl.Frame w wr v b ∧ (0 < k → b ≠ .slice none 0 0)) (fun _ i _ => 8 - (intOf i).toNat)
  case atStart => exact ⟨0, by omega, rfl, by simpa [Oct.fixB, Sl.cells] using hown, Sl.Frame.refl _ _, fun h => absurd h (Nat.lt_irrefl _)⟩
  case round =>
    obtain ⟨k, hk, rfl, ho, hfr, hnn⟩ := hrel
    have Hnn := hid hnn
    clear hnn
    by_cases hlt : k < 8
    · have hl := Oct.fixB_length k n
      go_wp2_with (at_builtin; refine Sl.wpList_append plain8 _ rfl (.tmp 12) (.tmp 18) 36 rfl u0 _ rfl (ho.alloc _) _ rfl 1 [_] (Sl.src_one _ 36 5 Try.underlying36 _ rfl 5) (.inl Nat.one_pos) ?hb ?_; (case hb => simp [Sl.cells_length, hl]; omega); intro v' w' ho' hf' hn')
      go_round
      case rel =>
        refine ⟨k + 1, by omega, by go_num, ?_, hfr.trans ((Sl.Frame.alloc _ _ _).trans hf'), fun _ => hn'⟩
        rw [Oct.fixB_snoc, ← Oct.byte_wrap]
        exact own_snoc ho' (n / 256 ^ k % 256) (by omega) (by rw [pow256]; go_num)
      case measure => simp [intOf]; omega
    · have hk4 : k = 8 := by omega
      subst hk4
      go_wp2
      go_ret
      exact ⟨_, rfl, ho, hfr, Hnn.out (by omega)⟩

set_option maxHeartbeats 400000 in
theorem long_any (v : Value) (xs : List Value) (n : Nat) (w : World) (hown : Sl.Own w v xs) (hx : xs.length ≤ 549755813888) (hn : n < 18446744073709551616) :
    Calls Try.prog 27 #[v, .int .u64 (n : Int)] w fun e w' => ∃ v', e = .returned v' ∧ Sl.Own w' v' (xs ++ Sl.cells (Oct.fixB 8 n)) ∧ Sl.Frame w w' v v' ∧ v' ≠ .slice none 0 0 := by
  go_enter Try.func27, Try.ntmps27
  go_wp2_with fail
  refine (low64_any v xs n _ hown hx hn).mono ?_
  rintro e w' ⟨v', rfl, h⟩
  go_wp2
  go_ret
  exact ⟨_, rfl, h⟩


set_option maxRecDepth 10000 in
set_option maxHeartbeats 400000 in
theorem fixed_any (n c : Nat) (w : World) (hn : n < 18446744073709551616) (hc : c ≤ 8) :
    Calls Try.prog 26 #[.int .u64 (n : Int), .int .i64 (c : Int)] w fun e w' => e = .returned (.string ⟨(Oct.fixB c n).toArray⟩) ∧ Reg.Keeps w w' := by
  go_enter Try.func26, Try.ntmps26
  go_wp2
  go_loopw [0, 5, 6] (fun m b i wr => ∃ (k : Nat), k ≤ c ∧ i = .int .i64 (k : Int) ∧ m = .int .u64 ((n / 256 ^ k : Nat) : Int) ∧ Sl.Own wr b ([] ++ Sl.cells (Oct.fixB k n)) ∧ Sl.Frame (w.alloc (Obj.cells #[] 5)) wr (.slice (some ⟨w.heap.size, 0, none⟩) 0 0) b) (fun _ _ i _ => c - (intOf i).toNat)
  case atStart => exact ⟨0, by omega, rfl, by simp, own_empty _ _, Sl.Frame.refl _ _⟩
  case round =>
    obtain ⟨k, hk, rfl, rfl, ho, hfr⟩ := hrel
    have hm : n / 256 ^ k < 18446744073709551616 := Nat.lt_of_le_of_lt (Nat.div_le_self _ _) hn
    have Hp : Hid (n / 256 ^ (k + 1) = n / 256 ^ k / 256) := by
      show _ = _
      rw [Nat.pow_succ, Nat.div_div_eq_div_mul]
    have Hs := hid (Oct.fixB_snoc k n)
    have hl := Oct.fixB_length k n
    generalize n / 256 ^ k = m at *
    by_cases hlt : k < c
    · go_wp2_with (at_builtin; refine Sl.wpList_append plain8 _ rfl (.tmp 13) (.tmp 17) 36 rfl u5 _ rfl (ho.alloc _) _ rfl 1 [_] (Sl.src_one _ 36 5 Try.underlying36 _ rfl 5) (.inl Nat.one_pos) ?hb ?_; (case hb => simp [Sl.cells_length, hl]; omega); intro v' w' ho' hf' hn')
      go_round
      case rel =>
        refine ⟨k + 1, by omega, by go_num, val_int (by rw [Hp.out]; go_num), ?_, hfr.trans ((Sl.Frame.alloc _ _ _).trans hf')⟩
        rw [Hs.out, ← Oct.byte_wrap]
        exact own_snoc ho' (m % 256) (by omega) (by go_num)
      case measure => simp [intOf]; omega
    · have hk4 : k = c := by omega
      subst hk4
      have hst := str_of wr u5 _ ho
      go_wp2
      go_ret
      exact ⟨rfl, keeps_new hfr⟩
end Go.Proofs.Ytedhecbcpcmlmaa
