/-
  Calls through the heap's interface of a pile's items: which function is met, with which receiver.
-/
import Derived.Test.YthhechgjablklaaPileH
namespace Go.Proofs.Ythhechgjablklaa
open Go.RowKit Go.Sort

theorem via (b : Nat) (name : String) (f : Nat) (w : World) (v : Value) (h : w.cell? ⟨b, 0, none⟩ = some v)
    (hm : (method 337 132 (.pointer (some ⟨b, 0, none⟩)) name).run Try.prog w = (Sem.load .plain ⟨b, 0, none⟩ fun v => pure (f, v)).run Try.prog w) :
    (method 337 132 (.pointer (some ⟨b, 0, none⟩)) name).run Try.prog w = .ok (f, v) w := by
  rw [hm]
  simp only [Sem.run, h]
  rfl
theorem mLen (b : Nat) (w : World) (v : Value) (h : w.cell? ⟨b, 0, none⟩ = some v) : (method 337 132 (.pointer (some ⟨b, 0, none⟩)) "Len").run Try.prog w = .ok (150, v) w :=
  via b "Len" 150 w v h (by kernel_rfl)
theorem mLess (b : Nat) (w : World) (v : Value) (h : w.cell? ⟨b, 0, none⟩ = some v) : (method 337 132 (.pointer (some ⟨b, 0, none⟩)) "Less").run Try.prog w = .ok (151, v) w :=
  via b "Less" 151 w v h (by kernel_rfl)
theorem mSwap (b : Nat) (w : World) (v : Value) (h : w.cell? ⟨b, 0, none⟩ = some v) : (method 337 132 (.pointer (some ⟨b, 0, none⟩)) "Swap").run Try.prog w = .ok (152, v) w :=
  via b "Swap" 152 w v h (by kernel_rfl)
theorem mPush (b : Nat) (w : World) : (method 337 132 (.pointer (some ⟨b, 0, none⟩)) "Push").run Try.prog w = .ok (154, .pointer (some ⟨b, 0, none⟩)) w := by kernel_rfl
theorem mPop (b : Nat) (w : World) : (method 337 132 (.pointer (some ⟨b, 0, none⟩)) "Pop").run Try.prog w = .ok (153, .pointer (some ⟨b, 0, none⟩)) w := by kernel_rfl
end Go.Proofs.Ythhechgjablklaa
