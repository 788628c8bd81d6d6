/-
  Calls through the heap's interface of a pile's items: which function is met, with which receiver.
-/
import Derived.Test.YtogacknpkoiokaaPileH
namespace Go.Proofs.Ytogacknpkoiokaa
open Go.RowKit Go.Sort

theorem via (b : Nat) (name : String) (f : Nat) (w : World) (v : Value) (h : w.cell? ⟨b, 0, none⟩ = some v)
    (hm : (method 299 114 (.pointer (some ⟨b, 0, none⟩)) name).run Try.prog w = (Sem.load .plain ⟨b, 0, none⟩ fun v => pure (f, v)).run Try.prog w) :
    (method 299 114 (.pointer (some ⟨b, 0, none⟩)) name).run Try.prog w = .ok (f, v) w := by
  rw [hm]
  simp only [Sem.run, h]
  rfl
theorem mLen (b : Nat) (w : World) (v : Value) (h : w.cell? ⟨b, 0, none⟩ = some v) : (method 299 114 (.pointer (some ⟨b, 0, none⟩)) "Len").run Try.prog w = .ok (124, v) w :=
  via b "Len" 124 w v h (by kernel_rfl)
theorem mLess (b : Nat) (w : World) (v : Value) (h : w.cell? ⟨b, 0, none⟩ = some v) : (method 299 114 (.pointer (some ⟨b, 0, none⟩)) "Less").run Try.prog w = .ok (125, v) w :=
  via b "Less" 125 w v h (by kernel_rfl)
theorem mSwap (b : Nat) (w : World) (v : Value) (h : w.cell? ⟨b, 0, none⟩ = some v) : (method 299 114 (.pointer (some ⟨b, 0, none⟩)) "Swap").run Try.prog w = .ok (126, v) w :=
  via b "Swap" 126 w v h (by kernel_rfl)
theorem mPush (b : Nat) (w : World) : (method 299 114 (.pointer (some ⟨b, 0, none⟩)) "Push").run Try.prog w = .ok (128, .pointer (some ⟨b, 0, none⟩)) w := by kernel_rfl
theorem mPop (b : Nat) (w : World) : (method 299 114 (.pointer (some ⟨b, 0, none⟩)) "Pop").run Try.prog w = .ok (127, .pointer (some ⟨b, 0, none⟩)) w := by kernel_rfl
end Go.Proofs.Ytogacknpkoiokaa
