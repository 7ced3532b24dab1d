/-
  What comes in, opened: slices of steps.
-/
import Derived.Test.YtigfklcclfpcjaaPlaysB
namespace Go.Proofs.Ytigfklcclfpcjaa
open Go.ChangeShapes Go.WideShapes Go.ChangeAt Go.RowKit
set_option linter.unusedVariables false
set_option linter.unusedSimpArgs false

theorem list11 {α : Type} {xs : List α} (h : xs.length = 11) : ∃ c0 c1 c2 c3 c4 c5 c6 c7 c8 c9 c10, xs = [c0, c1, c2, c3, c4, c5, c6, c7, c8, c9, c10] := by
  match xs, h with
  | [c0, c1, c2, c3, c4, c5, c6, c7, c8, c9, c10], _ => exact ⟨c0, c1, c2, c3, c4, c5, c6, c7, c8, c9, c10, rfl⟩
theorem list4 {α : Type} {xs : List α} (h : xs.length = 4) : ∃ c0 c1 c2 c3, xs = [c0, c1, c2, c3] := by
  match xs, h with
  | [c0, c1, c2, c3], _ => exact ⟨c0, c1, c2, c3, rfl⟩

set_option maxRecDepth 100000 in
theorem ops_of {H : Type} {enc : TypeId × Value → H} {w : World} {r : Reach} {b0 base : Nat} {held : Bool} {v : Value} {d : DataW H} {p : List MemPlace}
    (hv0 : Value.okWide Try.prog w r b0 22 v) (h : DataW.Trod enc Try.prog w base (fun _ => true) held 22 v d p) : ∃ qs, RowO w v qs := by
  obtain ⟨a, len, cap, rfl⟩ := okWide_slice Try.underlying22 hv0
  obtain ⟨fuel, hf⟩ := h
  rcases Deep.open_slice Try.underlying22 hf with ⟨hcs, _⟩ | ⟨y, l, c, m, n, D, Pl, hcs, _, hl, hm, hmm, _, hx⟩
  · simp [Value.cells] at hcs
    obtain ⟨rfl, rfl, rfl⟩ := hcs
    exact ⟨[], (fun q hq => by cases hq), none, 0, rfl, Nat.le_refl _, Nat.zero_le _, fun h => by simp at h⟩
  · simp [Value.cells] at hcs
    obtain ⟨rfl, rfl, rfl⟩ := hcs
    have hlm : len ≤ m := by rw [hmm]; split <;> omega
    have ce : Try.prog.cellsOf 40 = 11 := by kernel_rfl
    have each : ∀ i, i < len → ∃ z : OpB × Value, (∀ k u, (oc8 z.1 z.2)[k]? = some u → w.cell? (y.add (i * 11 + k)) = some u) ∧ I64 z.1.k ∧ I64 z.1.w ∧ I64 z.1.n ∧ EOk z.1.e ∧ Rd w z.2 z.1.e.b := by
      intro i hi
      obtain ⟨cs', h1, h2⟩ := hx i (by omega)
      rw [ce] at h1
      obtain ⟨_, hlen, hcell⟩ := World.cells?_some h1
      obtain ⟨c0, c1, c2, c3, c4, c5, c6, c7, c8, c9, c10, rfl⟩ := list11 hlen
      obtain ⟨xs, k, hk, hxy, _, hxl, hg⟩ := DataW.trod_struct Try.underlying40 h2
      obtain ⟨y0, y1, y2, y3, rfl⟩ := list4 (hxl.trans (by rfl))
      have g0 : DataW.trod enc Try.prog w base (fun _ => true) held k 3 [c0] = some y0 := hg 0 _ rfl
      have g1 : DataW.trod enc Try.prog w base (fun _ => true) held k 3 [c1] = some y1 := hg 1 _ rfl
      have g2 : DataW.trod enc Try.prog w base (fun _ => true) held k 3 [c2] = some y2 := hg 2 _ rfl
      have g3 : DataW.trod enc Try.prog w base (fun _ => true) held k 38 [c3, c4, c5, c6, c7, c8, c9, c10] = some y3 := hg 3 _ rfl
      obtain ⟨n0, e0, _, w0⟩ := DataW.trod_int Try.underlying3 g0
      obtain ⟨n1, e1, _, w1⟩ := DataW.trod_int Try.underlying3 g1
      obtain ⟨n2, e2, _, w2⟩ := DataW.trod_int Try.underlying3 g2
      simp at e0 e1 e2
      subst e0 e1 e2
      obtain ⟨e, x, ok, rd, he⟩ := trod_entry g3
      refine ⟨(⟨n0, n1, n2, e⟩, x), fun k u hk => ?_, wf_i64 w0, wf_i64 w1, wf_i64 w2, ok, rd⟩
      have hoc : oc8 ⟨n0, n1, n2, e⟩ x = [.int .i64 n0, .int .i64 n1, .int .i64 n2] ++ ec e x := rfl
      rw [hoc, ← he] at hk
      have hk8 : k < 11 := (List.getElem?_eq_some_iff.1 hk).1
      have e1 := hcell k (by omega)
      rw [Deep.add_add] at e1
      rw [e1]
      exact hk
    have : Inhabited (OpB × Value) := ⟨(⟨0, 0, 0, zeroE⟩, .slice none 0 0)⟩
    obtain ⟨z, hz'⟩ := Deep.choose_lt each
    refine ⟨(List.range len).map z, fun q hq => ?_, some y, cap, by simp, by simpa using hl, hm, fun hp => ?_⟩
    · obtain ⟨i, hi, rfl⟩ := List.mem_map.1 hq
      exact (hz' i (List.mem_range.1 hi)).2
    · simp at hp
      obtain ⟨b, off, spot⟩ := y
      have hspot : spot = none := by
        have h1 := (hz' 0 hp).1 0 _ rfl
        simpa [Addr.add] using World.cell?_spot h1
      subst hspot
      refine ⟨b, off, rfl, fun i q hi j u hj => ?_⟩
      have hlt : i < len := by have := (List.getElem?_eq_some_iff.1 hi).1; simpa using this
      simp [hlt] at hi
      subst hi
      have h2 := (hz' i hlt).1 j u hj
      rw [Addr.add_lit] at h2
      rw [Nat.add_assoc]
      exact h2

end Go.Proofs.Ytigfklcclfpcjaa
