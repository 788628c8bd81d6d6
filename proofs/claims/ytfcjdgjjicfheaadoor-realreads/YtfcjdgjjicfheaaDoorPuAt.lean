/-
  strconv.ParseUint at base 16 and 64 bits, at any string, over any program that has it.
-/
import Derived.Test.YtfcjdgjjicfheaaDoorPu16
import Derived.Test.YtfcjdgjjicfheaaDoorRead16
import Derived.Shelf.Pu.ParseUintEmpty
import Derived.Shelf.Pu.ToErrorRange
import Derived.Shelf.Pu.SyntaxError
import Derived.Lib.AtoiErrMem
namespace Go.Proofs.YtfcjdgjjicfheaaDoor
open Go.Shelf Go.RowKit
variable {P : Program} {ρ : Ren}

set_option maxHeartbeats 6400000 in
set_option maxRecDepth 100000 in
/-- strconv.toError at what is no number. -/
theorem toErr_bad (L : LaysPu.n17 P ρ) (fn s : ByteArray) (base bits : Int) (ev : Value) (w : World) (hlim : s.size ≤ 281474976710656) (hv : w.cell? ⟨(ρ.g 0), 0, none⟩ = some ev) (hev : ev = .nilIface ∨ ∃ te pe, ev = .iface te pe) :
    Calls P (ρ.f 17) #[.string fn, .string s, .int .i64 base, .int .i64 bits, .iface (ρ.t 34) (.int .i64 2)] w fun e w' => (∃ N, e = .returned (.iface (ρ.t 39) (.pointer (some ⟨N, 0, none⟩)))) ∧ Below w.heap.size w w' := by
  have mixed := L.mixed
  have t9 := L.t9; have a9 := L.a9; have z9 := L.z9; have v9 := L.v9
  have t3 := L.t3; have a3 := L.a3; have z3 := L.z3; have v3 := L.v3
  have t24 := L.t24; have a24 := L.a24; have z24 := L.z24; have v24 := L.v24
  have t34 := L.t34; have a34 := L.a34; have z34 := L.z34; have v34 := L.v34
  have t4 := L.t4; have a4 := L.a4; have z4 := L.z4; have v4 := L.v4
  have t39 := L.t39; have a39 := L.a39; have z39 := L.z39; have v39 := L.v39
  have e21 : ∀ args w, (callFunc (ρ.f 21) args).run P w = .ok (.enter (ρ.f 21) args) w := enters_of L.f21 (by kernel_rfl) rfl
  have heq : ∀ W, (binOp .eql (ρ.t 24) (.iface (ρ.t 34) (.int .i64 2)) (.iface (ρ.t 34) (.int .i64 2))).run P W = .ok (.bool true) W := fun W => Lib.run_eql_iface_int W 2 2 L.t24 L.c34 L.t34
  go_enter L.f17, BodyPu.n17_ntmps ρ
  go_wp2_with (go_at_fn (ρ.f 21); refine (AnyPu.strconv_syntaxError { L with } fn s ev _ hlim ?_ hev).mono ?_)
  · exact hv
  rintro e w2 ⟨N, rfl, h1, h2, h3⟩
  go_wp2
  go_ret
  exact ⟨⟨N, rfl⟩, h3⟩

set_option maxHeartbeats 4000000 in
set_option maxRecDepth 100000 in
theorem pu16_ok (L : LaysPu.n14 P ρ) (s : ByteArray) (u : Nat) (w W1 : World)
    (hI : Calls P (ρ.f 16) #[.string s, .int .i64 16, .int .i64 64] w fun e w' => e = .returned (.tuple #[.int .u64 u, .nilIface]) ∧ w' = W1) :
    Calls P (ρ.f 14) #[.string s, .int .i64 16, .int .i64 64] w fun e w' => e = .returned (.tuple #[.int .u64 u, .nilIface]) ∧ w' = W1 := by
  have mixed := L.mixed
  have t9 := L.t9; have a9 := L.a9; have z9 := L.z9; have v9 := L.v9
  have t3 := L.t3; have a3 := L.a3; have z3 := L.z3; have v3 := L.v3
  have t22 := L.t22; have a22 := L.a22; have z22 := L.z22; have v22 := L.v22
  have t24 := L.t24; have a24 := L.a24; have z24 := L.z24; have v24 := L.v24
  have t25 := L.t25; have a25 := L.a25; have z25 := L.z25; have v25 := L.v25
  have t4 := L.t4; have a4 := L.a4; have z4 := L.z4; have v4 := L.v4
  have e16 : ∀ args w, (callFunc (ρ.f 16) args).run P w = .ok (.enter (ρ.f 16) args) w := enters_of L.f16 (by kernel_rfl) rfl
  go_enter L.f14, BodyPu.n14_ntmps ρ
  go_wp2_with (go_at_fn (ρ.f 16); refine hI.mono ?_; rintro e w' ⟨rfl, rfl⟩)
  go_wp2
  go_ret2
  exact ⟨rfl, rfl⟩

set_option maxHeartbeats 4000000 in
set_option maxRecDepth 100000 in
theorem pu16_err (L : LaysPu.n14 P ρ) (s : ByteArray) (n k : Int) (w W1 : World) (B : Below w.heap.size w W1)
    (hI : Calls P (ρ.f 16) #[.string s, .int .i64 16, .int .i64 64] w fun e w' => e = .returned (.tuple #[.int .u64 n, .iface (ρ.t 34) (.int .i64 k)]) ∧ w' = W1)
    (hE : ∀ fn, Calls P (ρ.f 17) #[.string fn, .string s, .int .i64 16, .int .i64 64, .iface (ρ.t 34) (.int .i64 k)] W1 fun e w' => (∃ N, e = .returned (.iface (ρ.t 39) (.pointer (some ⟨N, 0, none⟩)))) ∧ Below W1.heap.size W1 w') :
    Calls P (ρ.f 14) #[.string s, .int .i64 16, .int .i64 64] w fun e w' => (∃ T p, e = .returned (.tuple #[.int .u64 n, .iface T p])) ∧ Below w.heap.size w w' := by
  have mixed := L.mixed
  have t9 := L.t9; have a9 := L.a9; have z9 := L.z9; have v9 := L.v9
  have t3 := L.t3; have a3 := L.a3; have z3 := L.z3; have v3 := L.v3
  have t22 := L.t22; have a22 := L.a22; have z22 := L.z22; have v22 := L.v22
  have t24 := L.t24; have a24 := L.a24; have z24 := L.z24; have v24 := L.v24
  have t25 := L.t25; have a25 := L.a25; have z25 := L.z25; have v25 := L.v25
  have t4 := L.t4; have a4 := L.a4; have z4 := L.z4; have v4 := L.v4
  have e16 : ∀ args w, (callFunc (ρ.f 16) args).run P w = .ok (.enter (ρ.f 16) args) w := enters_of L.f16 (by kernel_rfl) rfl
  have e17 : ∀ args w, (callFunc (ρ.f 17) args).run P w = .ok (.enter (ρ.f 17) args) w := enters_of L.f17 (by kernel_rfl) rfl
  go_enter L.f14, BodyPu.n14_ntmps ρ
  go_wp2_with (go_at_fn (ρ.f 16); refine hI.mono ?_; rintro e w' ⟨rfl, rfl⟩)
  go_wp2_with (go_at_fn (ρ.f 17); refine (hE _).mono ?_)
  rintro e w2 ⟨⟨N, rfl⟩, h3⟩
  go_wp2
  go_ret2
  exact ⟨⟨_, _, rfl⟩, B.trans (h3.mono B.size)⟩

/-- strconv.ParseUint(s, 16, 64). -/
def PuEnd (s : ByteArray) (w : World) (e : Ending) (w' : World) : Prop :=
  Below w.heap.size w w' ∧ match pu16V s with
  | some u => e = .returned (.tuple #[.int .u64 u, .nilIface])
  | none => ∃ n T p, e = .returned (.tuple #[.int .u64 n, .iface T p])
theorem pu16_any (L : LaysPu.n14 P ρ) (s : ByteArray) (hlim : s.size ≤ 281474976710656) (w : World) (es er : Value) (hv : w.cell? ⟨(ρ.g 0), 0, none⟩ = some es) (hev : es = .nilIface ∨ ∃ te pe, es = .iface te pe)
    (hr : w.cell? ⟨(ρ.g 1), 0, none⟩ = some er) (her : er = .nilIface ∨ ∃ te pe, er = .iface te pe) :
    Calls P (ρ.f 14) #[.string s, .int .i64 16, .int .i64 64] w fun e w' => PuEnd s w e w' := by
  have hG : (ρ.g 0) < w.heap.size := Lib.lt_of_cell hv
  have hG1 : (ρ.g 1) < w.heap.size := Lib.lt_of_cell hr
  by_cases h0 : s.size = 0
  · have ht : s = ⟨#[]⟩ := by
      apply ByteArray.ext
      exact Array.eq_empty_of_size_eq_zero h0
    have hV : pu16V s = none := by simp [pu16V, h0]
    unfold PuEnd
    rw [hV]
    subst ht
    refine (pu16_err L _ 0 2 w w (Below.refl _ _) (AnyPu.internal_strconv_ParseUint_empty { L with } 16 64 w) (fun fn => toErr_bad { L with } fn _ 16 64 es w hlim hv hev)).mono ?_
    rintro e w' ⟨⟨T, p, h⟩, hb⟩
    exact ⟨hb, 0, T, p, h⟩
  · have hI := pu16 { L with } s h0 (by omega) w
    have hb1 : Below w.heap.size w (Lib.bytesWorld w (ρ.t 5) s) := Lib.bytesWorld_below _ _ _
    have hV : pu16V s = (read16 0 s.data.toList).getD none := by simp [pu16V, h0]
    unfold PuEnd
    rw [hV]
    have c0 : (Lib.bytesWorld w (ρ.t 5) s).cell? ⟨(ρ.g 0), 0, none⟩ = some es := (hb1.cell (show (⟨(ρ.g 0), 0, none⟩ : Addr).block < w.heap.size from hG)).trans hv
    have c1 : (Lib.bytesWorld w (ρ.t 5) s).cell? ⟨(ρ.g 1), 0, none⟩ = some er := (hb1.cell (show (⟨(ρ.g 1), 0, none⟩ : Addr).block < w.heap.size from hG1)).trans hr
    rcases hR : read16 0 s.data.toList with _ | _ | u
    · rw [hR] at hI
      refine (pu16_err L s 0 2 w _ hb1 hI (fun fn => toErr_bad { L with } fn _ 16 64 es _ hlim c0 hev)).mono ?_
      rintro e w' ⟨⟨T, p, h⟩, hb⟩
      exact ⟨hb, 0, T, p, h⟩
    · rw [hR] at hI
      refine (pu16_err L s 18446744073709551615 1 w _ hb1 hI (fun fn => (AnyPu.strconv_toError_range { L with } fn _ 16 64 er _ hlim c1 her).mono ?_)).mono ?_
      · rintro e w' ⟨N, h1, h2, h3, h4⟩
        exact ⟨⟨N, h1⟩, h4⟩
      · rintro e w' ⟨⟨T, p, h⟩, hb⟩
        exact ⟨hb, _, T, p, h⟩
    · rw [hR] at hI
      refine (pu16_ok L s u w _ hI).mono ?_
      rintro e w' ⟨h, rfl⟩
      exact ⟨hb1, h⟩
end Go.Proofs.YtfcjdgjjicfheaaDoor
