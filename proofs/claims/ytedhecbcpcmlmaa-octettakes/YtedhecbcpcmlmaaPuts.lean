/-
  octet.Str, the references' Num, the statements' awake.
-/
import Derived.Test.YtedhecbcpcmlmaaIn4
namespace Go.Proofs.Ytedhecbcpcmlmaa
open Go.RowKit

theorem src_str (w : World) (s : ByteArray) : Src Try.prog 1 9 (.string s) s.size (Sl.cells s.data.toList) w := Src.ofString w Try.underlying9 s

set_option maxHeartbeats 400000 in
theorem str_any (v : Value) (xs : List Value) (s : ByteArray) (w : World) (hown : Sl.Own w v xs) (hx : xs.length ≤ 549755813888) (hs : s.size ≤ 549755813000) :
    Calls Try.prog 23 #[v, .string s] w fun e w' => ∃ v', e = .returned v' ∧ Sl.Own w' v' (xs ++ Sl.cells (Oct.numB 9 s.size) ++ Sl.cells s.data.toList) ∧ Sl.Frame w w' v v' ∧ v' ≠ .slice none 0 0 := by
  go_enter Try.func23, Try.ntmps23
  go_wp2_with fail
  refine (num_any v xs s.size _ hown hx (by omega)).mono ?_
  rintro e w1 ⟨v1, rfl, ho, hf, hn⟩
  have hl := Oct.numB_length 9 s.size
  go_wp2_with (at_builtin; refine Sl.wpList_append plain8 _ rfl (.tmp 9) (.tmp 10) 9 rfl v1 _ rfl ho _ rfl s.size _ (src_str _ s) (.inr hn) ?hb ?_; (case hb => simp [Sl.cells_length]; omega); intro v' w' ho' hf' hn')
  go_ret
  exact ⟨_, rfl, ho', hf.trans hf', hn'⟩

set_option maxRecDepth 10000 in
set_option maxHeartbeats 400000 in
theorem awake1_any (w : World) :
    Calls Try.prog 16 #[] w fun e w' => e = .returned (.bool true) ∧ Reg.Keeps w w' := by
  go_enter Try.func16, Try.ntmps16
  go_wp2_with fail
  refine (num_any (.slice none 0 0) [] 300 _ (Sl.Own.nil _) (by decide) (by decide)).mono ?_
  rintro e w1 ⟨v1, rfl, ho, hf, hn⟩
  have hk1 := hf.keepsNil
  have hst := str_of w1 v1 [172, 2] ho
  clear hn hf ho
  go_wp2_with fail
  refine (int_any (.slice none 0 0) [] (-1) _ (Sl.Own.nil _) (by decide) (by decide) (by decide)).mono ?_
  rintro e w2 ⟨v2, rfl, ho2, hf2, hn2⟩
  have hk2 := hf2.keepsNil
  have hst2 := str_of w2 v2 [1] ho2
  clear hn2 hf2 ho2 hst
  go_wp2_with fail
  refine (of_any _ _ (by decide)).mono ?_
  rintro e w3 ⟨rfl, hin, hk3⟩
  clear hst2
  go_wp2_with fail
  refine (inNum_any _ _ _ 300 _ hin).mono ?_
  rintro e w4 ⟨rfl, hin4, hbut⟩
  have hp : (pNum ⟨#[172, 2]⟩ 0 300).1 = 300 := by decide +kernel
  rw [hp]
  go_wp2
  go_ret
  exact ⟨rfl, Below.trans ((hk1.trans hk2).trans hk3) (hbut.below (B := w.heap.size) (Nat.le_trans hk1.size hk2.size) (Nat.le_trans (Nat.le_trans hk1.size hk2.size) hk3.size))⟩

theorem one_cell (x : Nat) (hx : x < 256) : [Value.int .u8 ((x : Nat) : Int)] = Sl.cells [UInt8.ofNat x] := by
  simp [Sl.cells, Nat.mod_eq_of_lt hx]
theorem str_sl (w : World) (v : Value) (l : List UInt8) (h : Reg.OwnSl (Sl.cells l) v w) : (convert 36 9 v).run Try.prog w = .ok (.string ⟨l.toArray⟩) w := by
  obtain ⟨g, rfl, _, hc⟩ := h
  rw [Sl.cells_length]
  refine run_convert_bytes_back w 36 9 5 ⟨g, 0, none⟩ _ l Try.underlying36 Try.underlying5 Try.underlying9 (fun j hj => ?_)
  have := hc j (by rw [Sl.cells_length]; exact hj)
  rw [Addr.add_lit]
  simpa [Sl.cells] using this
theorem cons_bytes (x : UInt8) (l : List UInt8) : (⟨(x :: l).toArray⟩ : ByteArray) = ⟨#[x]⟩ ++ ⟨l.toArray⟩ := by
  apply ByteArray.ext; simp

def numR (n : Nat) : List (Value → World → Prop) :=
  [fun v _ => v = .int .u64 (n : Int),
   fun v _ => v = .int .u64 ((n % 128 : Nat) : Int),
   fun v _ => v = .int .u64 ((n % 128 + 128 : Nat) : Int),
   fun v _ => v = .int .u8 ((n % 128 + 128 : Nat) : Int),
   Reg.OwnSl [.int .u8 ((n % 128 + 128 : Nat) : Int)],
   fun v _ => v = .string ⟨#[UInt8.ofNat (n % 128 + 128)]⟩,
   fun v _ => v = .int .u64 (n : Int),
   fun v _ => v = .int .u64 ((n / 128 : Nat) : Int),
   fun v _ => v = .string ⟨(Oct.numB 9 (n / 128)).toArray⟩,
   fun v _ => v = .string ((⟨#[UInt8.ofNat (n % 128 + 128)]⟩ : ByteArray) ++ (⟨(Oct.numB 9 (n / 128)).toArray⟩ : ByteArray)),
   fun v _ => v = .string ((⟨#[UInt8.ofNat (n % 128 + 128)]⟩ : ByteArray) ++ (⟨(Oct.numB 9 (n / 128)).toArray⟩ : ByteArray))]
theorem numR_kept (n : Nat) : Reg.AllKept Reg.Keeps (numR n) :=
  ⟨(fun _ _ _ _ h => h), (fun _ _ _ _ h => h), (fun _ _ _ _ h => h), (fun _ _ _ _ h => h), (fun _ _ _ => Reg.OwnSl.keeps), (fun _ _ _ _ h => h), (fun _ _ _ _ h => h), (fun _ _ _ _ h => h), (fun _ _ _ _ h => h), (fun _ _ _ _ h => h), (fun _ _ _ _ h => h), trivial⟩

set_option maxRecDepth 10000 in
set_option maxHeartbeats 400000 in
theorem refNum_any (n : Nat) (w : World) (hn : n < 18446744073709551616) :
    Calls Try.prog 20 #[.int .u64 (n : Int)] w fun e w' => e = .returned (.string ⟨(Oct.numB 9 n).toArray⟩) ∧ Reg.Keeps w w' := by
  rw [← Oct.numB_fuel 9 n (Nat.lt_trans hn (by decide))]
  by_cases h : n < 128
  · rw [Oct.numB_small 10 h]
    have hst := str_sl (w.alloc (.cells #[.int .u8 (n : Int)] 5)) (.slice (some ⟨w.heap.size, 0, none⟩) 1 1) [UInt8.ofNat n] (by rw [← one_cell n (by omega)]; exact Reg.OwnSl.new _ w 5 1 rfl)
    go_enter Try.func20, Try.ntmps20
    go_wp2
    go_ret
    exact ⟨rfl, (Reg.Keeps.refl _).alloc _⟩
  · rw [Oct.numB_more 9 h, cons_bytes]
    go_enter Try.func20, Try.ntmps20
    go_wp2
    have hrefl : ∀ w : World, Reg.Keeps w w := Reg.Keeps.refl
    refine Reg.wp_region_props (Reg.ofList (numR n)) Reg.Keeps (fun _ wx => Reg.Keeps w wx) (by kernel_rfl) (by kernel_rfl) (Reg.AllKept.at _ (numR_kept n)) hrefl ((Reg.Keeps.refl _).drewN 1) ⟨?_, ?_, ?_, ?_, ?_, ?_, ?_, ?_, ?_, ?_, ?_, trivial⟩ ?_
    · refine Reg.StepAt.plain (i := 0) rfl ?_
      intro L ev w hI hk hp hA
      have e0 : ev (.tmp 0) = .int .u64 (n : Int) := hA.oldNone 0 (by kernel_rfl)
      have hcc := hA.const
      clear hA hp
      refine Reg.out_value (v := .int .u64 (n : Int)) ?_ ⟨rfl, hrefl _, hI⟩
      go_simp
    · refine Reg.StepAt.plain (i := 1) rfl ?_
      intro L ev w hI hk hp hA
      have e9 : ev (.tmp 9) = .int .u64 (n : Int) := hA.val 0 _ 9 rfl (hp ⟨0, .data⟩ (by simp) rfl) rfl
      have hcc := hA.const
      clear hA hp
      refine Reg.out_value (v := .int .u64 ((n % 128 : Nat) : Int)) ?_ ⟨rfl, hrefl _, hI⟩
      go_simp; rw [Int.tmod_eq_emod_of_nonneg (by omega)]
    · refine Reg.StepAt.plain (i := 2) rfl ?_
      intro L ev w hI hk hp hA
      have e10 : ev (.tmp 10) = .int .u64 ((n % 128 : Nat) : Int) := hA.val 1 _ 10 rfl (hp ⟨1, .data⟩ (by simp) rfl) rfl
      have hcc := hA.const
      clear hA hp
      refine Reg.out_value (v := .int .u64 ((n % 128 + 128 : Nat) : Int)) ?_ ⟨rfl, hrefl _, hI⟩
      go_simp; simp only [IntKind.wrap_u64]; omega
    · refine Reg.StepAt.plain (i := 3) rfl ?_
      intro L ev w hI hk hp hA
      have e11 : ev (.tmp 11) = .int .u64 ((n % 128 + 128 : Nat) : Int) := hA.val 2 _ 11 rfl (hp ⟨2, .data⟩ (by simp) rfl) rfl
      have hcc := hA.const
      clear hA hp
      refine Reg.out_value (v := .int .u8 ((n % 128 + 128 : Nat) : Int)) ?_ ⟨rfl, hrefl _, hI⟩
      go_simp; simp only [IntKind.wrap_u8]; omega
    · refine Reg.StepAt.plain (i := 4) rfl ?_
      intro L ev w hI hk hp hA
      have e12 : ev (.tmp 12) = .int .u8 ((n % 128 + 128 : Nat) : Int) := hA.val 3 _ 12 rfl (hp ⟨3, .data⟩ (by simp) rfl) rfl
      have hcc := hA.const
      clear hA hp
      refine Reg.out_new (v := .slice (some ⟨w.heap.size, 0, none⟩) 1 1) (w' := w.alloc (.cells #[.int .u8 ((n % 128 + 128 : Nat) : Int)] 5)) ?_ ?_
      · go_simp
      · exact ⟨Reg.OwnSl.new [.int .u8 ((n % 128 + 128 : Nat) : Int)] w 5 1 rfl, (Reg.Keeps.refl _).alloc _, hI.alloc _⟩
    · refine Reg.StepAt.plain (i := 5) rfl ?_
      intro L ev w hI hk hp hA
      have e13 : (Reg.OwnSl [.int .u8 ((n % 128 + 128 : Nat) : Int)]) (ev (.tmp 13)) w := hA.val 4 _ 13 rfl (hp ⟨4, .data⟩ (by simp) rfl) rfl
      have hcc := hA.const
      clear hA hp
      rw [one_cell (n % 128 + 128) (by omega)] at e13
      have hst := str_sl w _ _ e13
      refine Reg.out_value (v := .string ⟨#[UInt8.ofNat (n % 128 + 128)]⟩) ?_ ⟨rfl, hrefl _, hI⟩
      go_simp
    · refine Reg.StepAt.plain (i := 6) rfl ?_
      intro L ev w hI hk hp hA
      have e0 : ev (.tmp 0) = .int .u64 (n : Int) := hA.oldNone 0 (by kernel_rfl)
      have hcc := hA.const
      clear hA hp
      refine Reg.out_value (v := .int .u64 (n : Int)) ?_ ⟨rfl, hrefl _, hI⟩
      go_simp
    · refine Reg.StepAt.plain (i := 7) rfl ?_
      intro L ev w hI hk hp hA
      have e15 : ev (.tmp 15) = .int .u64 (n : Int) := hA.val 6 _ 15 rfl (hp ⟨6, .data⟩ (by simp) rfl) rfl
      have hcc := hA.const
      clear hA hp
      refine Reg.out_value (v := .int .u64 ((n / 128 : Nat) : Int)) ?_ ⟨rfl, hrefl _, hI⟩
      go_simp; simp only [IntKind.wrap_u64]; omega
    · refine Reg.StepAt.plain (i := 8) rfl ?_
      intro L ev w hI hk hp hA
      have e16 : ev (.tmp 16) = .int .u64 ((n / 128 : Nat) : Int) := hA.val 7 _ 16 rfl (hp ⟨7, .data⟩ (by simp) rfl) rfl
      have hcc := hA.const
      have hcf := hA.func
      clear hA hp
      refine Reg.out_call (f := 24) (args := #[.int .u64 ((n / 128 : Nat) : Int)]) (w0 := w) ?_ ?_
      · go_simp
      refine (num2_any (n / 128) w (by omega)).mono ?_
      rintro e w' ⟨rfl, hk2⟩
      exact ⟨_, rfl, rfl, hk2, hI.trans hk2⟩
    · refine Reg.StepAt.plain (i := 9) rfl ?_
      intro L ev w hI hk hp hA
      have e14 : ev (.tmp 14) = .string ⟨#[UInt8.ofNat (n % 128 + 128)]⟩ := hA.val 5 _ 14 rfl (hp ⟨5, .data⟩ (by simp) rfl) rfl
      have e17 : ev (.tmp 17) = .string ⟨(Oct.numB 9 (n / 128)).toArray⟩ := hA.val 8 _ 17 rfl (hp ⟨8, .data⟩ (by simp) rfl) rfl
      have hcc := hA.const
      clear hA hp
      refine Reg.out_value (v := .string ((⟨#[UInt8.ofNat (n % 128 + 128)]⟩ : ByteArray) ++ (⟨(Oct.numB 9 (n / 128)).toArray⟩ : ByteArray))) ?_ ⟨rfl, hrefl _, hI⟩
      go_simp; have := Oct.numB_length 9 (n / 128); omega
    · refine Reg.StepAt.plain (i := 10) rfl ?_
      intro L ev w hI hk hp hA
      have e18 : ev (.tmp 18) = .string ((⟨#[UInt8.ofNat (n % 128 + 128)]⟩ : ByteArray) ++ (⟨(Oct.numB 9 (n / 128)).toArray⟩ : ByteArray)) := hA.val 9 _ 18 rfl (hp ⟨9, .data⟩ (by simp) rfl) rfl
      have hcc := hA.const
      clear hA hp
      refine Reg.out_value (v := .string ((⟨#[UInt8.ofNat (n % 128 + 128)]⟩ : ByteArray) ++ (⟨(Oct.numB 9 (n / 128)).toArray⟩ : ByteArray))) ?_ ⟨rfl, hrefl _, hI⟩
      go_simp
    intro L a w' hall hI hF
    have h2 : a.eval (.tmp 2) = .string ((⟨#[UInt8.ofNat (n % 128 + 128)]⟩ : ByteArray) ++ (⟨(Oct.numB 9 (n / 128)).toArray⟩ : ByteArray)) := hF.val 10 _ 2 rfl (hall 10 (by simp)) rfl
    have hd : a.defers = [] := hF.defers
    clear hF hall
    go_wp2
    refine bodyPost_ret (results_tmp rfl a.tmps Try.prog w') hd ?_
    refine ⟨(congrArg Ending.returned h2).trans ?_, hI⟩
    congr 2
end Go.Proofs.Ytedhecbcpcmlmaa
