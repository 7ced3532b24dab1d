/-
  Steps that came in: how many there can be.
-/
import Derived.Test.YthnjbjlhfohpfaaGreatUdE
import Derived.Deep.Slices
import Derived.SizedLaws
namespace Go.Proofs.YthnjbjlhfohpfaaGreat
set_option linter.unusedVariables false
set_option linter.unusedSimpArgs false
set_option synthInstance.maxSize 20000
set_option maxHeartbeats 2000000
set_option maxRecDepth 20000
open Go.RowKit Go.Maps

section
open Go.ChangeShapes Go.WideShapes Go.ChangeAt
variable {H : Type} {enc : TypeId × Value → H}
set_option maxRecDepth 100000 in
theorem steps_of {w : World} {r : Reach} {b0 base : Nat} {held : Bool} {v : Value} {d : DataW H} {p : List MemPlace}
    (hv : Value.okWide Tryz.prog w r b0 22 v) (h : DataW.Trod enc Tryz.prog w base (fun _ => true) held 22 v d p) : ∃ l, RowF spc w v l ∧ (∀ s ∈ l, QIn w s.q) ∧ (l = [] ∨ ∃ el sp, d = .slice el sp ∧ el.length = l.length) := by
  obtain ⟨a0, len0, cap0, rfl⟩ := okWide_slice Tryz.underlying22 hv
  obtain ⟨fuel, hf⟩ := h
  have : Inhabited SpT := ⟨⟨false, oz⟩⟩
  obtain ⟨l, h1, h2⟩ := rows_of (f := spc) spc_len (by omega) Tryz.underlying22 (by kernel_rfl) (fun s => QIn w s.q) (fun n cs y hl hy => sp_cells hl hy) hf
  refine ⟨l, h1, h2, ?_⟩
  obtain ⟨a1, c1, e1⟩ := h1.len
  rcases Deep.open_slice Tryz.underlying22 hf with ⟨hcs, _⟩ | ⟨y, len, cap, m, n, D, Pl, hcs, _, hl, hm, hmm, hx, _⟩
  · left
    simp [Value.cells] at hcs
    have : (Value.slice none 0 0) = .slice a1 l.length c1 := by rw [← e1, hcs.1, hcs.2.1, hcs.2.2]
    injection this with _ e _
    exact List.eq_nil_of_length_eq_zero e.symm
  · right
    simp [Value.cells] at hcs
    rw [hcs.1, hcs.2.1, hcs.2.2] at e1
    injection e1 with _ e _
    injection hx with hx _
    exact ⟨_, _, hx, by rw [List.length_map, List.length_range]; exact e⟩
theorem steps_fit {ts : List TypeId} {ds : List (DataW H)} {j : Nat} {d : DataW H} {l : List SpT} (h : (DataW.weightsEach Tryz.prog ts ds).all (· ≤ reachBytes) = true) (ht : ts[j]? = some 22) (hd : ds[j]? = some d) (hl : l = [] ∨ ∃ el sp, d = .slice el sp ∧ el.length = l.length) : l.length * 104 ≤ 140737488355328 := by
  rcases hl with rfl | ⟨el, sp, rfl, e⟩
  · simp
  · have h1 := sized_slice h ht hd Tryz.underlying22
    have hb : Tryz.prog.bytesOf 40 = 112 := by kernel_rfl
    rw [hb] at h1
    have h2 : reachBytes < 140737488355328 := reachBytes_lt
    have h3 : (el.length + sp.length) * 112 = el.length * 112 + sp.length * 112 := Nat.add_mul _ _ _
    omega
end
end Go.Proofs.YthnjbjlhfohpfaaGreat
