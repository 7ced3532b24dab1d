/-
  Calls through heap.Interface: what *queue's methods are.
-/
import Derived.Test.YtigfklcclfpcjaaPut
namespace Go.Proofs.Ytigfklcclfpcjaa
set_option linter.unusedVariables false
set_option linter.unusedSimpArgs false
open Go.RowKit

theorem m_len (F b off : Nat) (w : World) (v : Value) (h : w.cell? ⟨b, off, none⟩ = some v) : (method (F + 1) 72 (.pointer (some ⟨b, off, none⟩)) "Len").run Try.prog w = .ok (27, v) w := by
  have e : (method (F + 1) 72 (.pointer (some ⟨b, off, none⟩)) "Len").run Try.prog w = (Sem.load .plain ⟨b, off, none⟩ (fun v => .pure (27, v))).run Try.prog w := by kernel_rfl
  rw [e]
  simp [Sem.run, h]
theorem m_less (F b off : Nat) (w : World) (v : Value) (h : w.cell? ⟨b, off, none⟩ = some v) : (method (F + 1) 72 (.pointer (some ⟨b, off, none⟩)) "Less").run Try.prog w = .ok (74, v) w := by
  have e : (method (F + 1) 72 (.pointer (some ⟨b, off, none⟩)) "Less").run Try.prog w = (Sem.load .plain ⟨b, off, none⟩ (fun v => .pure (74, v))).run Try.prog w := by kernel_rfl
  rw [e]
  simp [Sem.run, h]
theorem m_swap (F b off : Nat) (w : World) (v : Value) (h : w.cell? ⟨b, off, none⟩ = some v) : (method (F + 1) 72 (.pointer (some ⟨b, off, none⟩)) "Swap").run Try.prog w = .ok (75, v) w := by
  have e : (method (F + 1) 72 (.pointer (some ⟨b, off, none⟩)) "Swap").run Try.prog w = (Sem.load .plain ⟨b, off, none⟩ (fun v => .pure (75, v))).run Try.prog w := by kernel_rfl
  rw [e]
  simp [Sem.run, h]
theorem m_push (F b off : Nat) (w : World) : (method (F + 1) 72 (.pointer (some ⟨b, off, none⟩)) "Push").run Try.prog w = .ok (78, .pointer (some ⟨b, off, none⟩)) w := by kernel_rfl
theorem m_pop (F b off : Nat) (w : World) : (method (F + 1) 72 (.pointer (some ⟨b, off, none⟩)) "Pop").run Try.prog w = .ok (77, .pointer (some ⟨b, off, none⟩)) w := by kernel_rfl
theorem n_push (F : Nat) (A : Addr) (w : World) : (nilAhead (F + 1) 72 (.pointer (some A)) "Push").run Try.prog w = .ok (some false) w := by kernel_rfl
theorem n_pop (F : Nat) (A : Addr) (w : World) : (nilAhead (F + 1) 72 (.pointer (some A)) "Pop").run Try.prog w = .ok (some false) w := by kernel_rfl
theorem n_len (F : Nat) (A : Addr) (w : World) : (nilAhead (F + 1) 72 (.pointer (some A)) "Len").run Try.prog w = .ok (some false) w := by kernel_rfl
theorem n_less (F : Nat) (A : Addr) (w : World) : (nilAhead (F + 1) 72 (.pointer (some A)) "Less").run Try.prog w = .ok (some false) w := by kernel_rfl
theorem n_swap (F : Nat) (A : Addr) (w : World) : (nilAhead (F + 1) 72 (.pointer (some A)) "Swap").run Try.prog w = .ok (some false) w := by kernel_rfl

/-- The queue as the library's heap takes it. -/
abbrev hp (b off : Nat) : Value := .iface 72 (.pointer (some ⟨b, off, none⟩))

end Go.Proofs.Ytigfklcclfpcjaa
