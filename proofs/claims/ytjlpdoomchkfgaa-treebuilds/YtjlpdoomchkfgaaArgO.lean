/-
  ArgB: grafted.
  Operations that came in.
-/
import Derived.Test.YtjlpdoomchkfgaaPut
import Derived.Test.YtjlpdoomchkfgaaRef
import Derived.Test.YtjlpdoomchkfgaaTurn
import Derived.Deep.SlicePairs
import Derived.Lib.SmallJoins
import Derived.ProofKit
import Derived.OpenShut
import Derived.Test.YtjlpdoomchkfgaaRow
import Derived.Test.YtjlpdoomchkfgaaRowG
namespace Go.Proofs.Ytjlpdoomchkfgaa
section
section
section
open Go.ChangeShapes Go.WideShapes Go.ChangeAt Go.RowKit
set_option linter.unusedVariables false
set_option maxRecDepth 100000 in
theorem stamp_of {H : Type} {enc : TypeId × Value → H} {w : World} {r : Reach} {b0 base : Nat} {held : Bool} {v : Value} {d : DataW H} {p : List MemPlace}
    (hv : Value.okWide Try.prog w r b0 24 v) (h : DataW.Trod enc Try.prog w base (fun _ => true) held 24 v d p) : ∃ s, SOk s ∧ v = sv s := by
  obtain ⟨v0, v1, y0, y1, n, rfl, _, _, h0, h1⟩ := Joins.open_agg2 Try.underlying24 (by kernel_rfl) (by kernel_rfl) hv h
  obtain ⟨n0, e0, _, w0⟩ := DataW.trod_int Try.underlying2 h0
  obtain ⟨n1, e1, _, w1⟩ := DataW.trod_int Try.underlying3 h1
  simp at e0 e1
  subst e0 e1
  exact ⟨(n0, n1), ⟨wf_i64 w0, wf_i64 w1⟩, rfl⟩
set_option maxRecDepth 100000 in
theorem bytes_of {H : Type} {enc : TypeId × Value → H} {w : World} {r : Reach} {b0 base : Nat} {held : Bool} {v : Value} {d : DataW H} {p : List MemPlace}
    (hv : Value.okWide Try.prog w r b0 33 v) (h : DataW.Trod enc Try.prog w base (fun _ => true) held 33 v d p) : ∃ l, Rd w v l := by
  obtain ⟨a0, len0, cap0, rfl⟩ := okWide_slice Try.underlying33 hv
  obtain ⟨fuel, hf⟩ := h
  rcases open_ints Try.underlying33 Try.underlying5 (by kernel_rfl) hf with ⟨hcs, _⟩ | ⟨x, l, c, zs, hcs, _, hl, hm, hz, _, hcell, hwz⟩
  · simp [Value.cells] at hcs
    obtain ⟨rfl, rfl, rfl⟩ := hcs
    exact ⟨[], rd_nil w⟩
  · simp [Value.cells] at hcs
    obtain ⟨rfl, rfl, rfl⟩ := hcs
    exact ⟨_, rd_of_row (.inr ⟨_, rfl, hl, hm, by simpa using hz, hcell, hwz⟩)⟩
end
end
end

section
set_option linter.unusedVariables false
set_option linter.unusedSimpArgs false
set_option synthInstance.maxSize 20000
set_option maxHeartbeats 2000000
set_option maxRecDepth 20000
open Go.RowKit Go.Maps

open Go.ChangeShapes Go.WideShapes Go.ChangeAt
theorem list7 {α : Type} {xs : List α} (h : xs.length = 7) : ∃ c0 c1 c2 c3 c4 c5 c6, xs = [c0, c1, c2, c3, c4, c5, c6] := by
  match xs, h with
  | [c0, c1, c2, c3, c4, c5, c6], _ => exact ⟨c0, c1, c2, c3, c4, c5, c6, rfl⟩
theorem list10 {α : Type} {xs : List α} (h : xs.length = 10) : ∃ c0 c1 c2 c3 c4 c5 c6 c7 c8 c9, xs = [c0, c1, c2, c3, c4, c5, c6, c7, c8, c9] := by
  match xs, h with
  | [c0, c1, c2, c3, c4, c5, c6, c7, c8, c9], _ => exact ⟨c0, c1, c2, c3, c4, c5, c6, c7, c8, c9, rfl⟩
structure QIn (w : World) (q : OpT) : Prop where
  k : I64 q.k
  a : SOk q.a
  n : SOk q.n
  p : SOk q.p
  rd : Rd w q.v q.b
section
variable {H : Type} {enc : TypeId × Value → H} {w : World} {base : Nat} {held : Bool}
set_option maxRecDepth 100000 in
theorem stamp_cells {fuel : Nat} {c0 c1 : Value} {y : DataW H × List MemPlace} (h : DataW.trod enc Try.prog w base (fun _ => true) held fuel 24 [c0, c1] = some y) : ∃ s, [c0, c1] = sc s ∧ SOk s := by
  obtain ⟨z0, z1, m, _, _, s0, s1⟩ := trod_struct2 Try.underlying24 h
  have s0' : DataW.trod enc Try.prog w base (fun _ => true) held m 2 [c0] = some z0 := s0
  have s1' : DataW.trod enc Try.prog w base (fun _ => true) held m 3 [c1] = some z1 := s1
  obtain ⟨n3, e3, _, w3⟩ := DataW.trod_int Try.underlying2 s0'
  obtain ⟨n4, e4, _, w4⟩ := DataW.trod_int Try.underlying3 s1'
  simp at e3 e4
  subst e3 e4
  exact ⟨(n3, n4), rfl, ⟨wf_i64 w3, wf_i64 w4⟩⟩
set_option maxRecDepth 100000 in
theorem op_cells {fuel : Nat} {cs : List Value} {y : DataW H × List MemPlace} (hl : cs.length = 10) (hf : DataW.trod enc Try.prog w base (fun _ => true) held fuel 40 cs = some y) : ∃ q, cs = oc q ∧ QIn w q := by
  obtain ⟨c0, c1, c2, c3, c4, c5, c6, c7, c8, c9, rfl⟩ := list10 hl
  obtain ⟨xs, n, _, hx, _, hlen, hg⟩ := DataW.trod_struct Try.underlying40 hf
  obtain ⟨y0, y1, y2, y3, y4, y5, y6, rfl⟩ := list7 (hlen.trans (by rfl))
  have g0 : DataW.trod enc Try.prog w base (fun _ => true) held n 3 [c0] = some y0 := hg 0 _ rfl
  have g1 : DataW.trod enc Try.prog w base (fun _ => true) held n 24 [c1, c2] = some y1 := hg 1 _ rfl
  have g2 : DataW.trod enc Try.prog w base (fun _ => true) held n 24 [c3, c4] = some y2 := hg 2 _ rfl
  have g3 : DataW.trod enc Try.prog w base (fun _ => true) held n 24 [c5, c6] = some y3 := hg 3 _ rfl
  have g4 : DataW.trod enc Try.prog w base (fun _ => true) held n 4 [c7] = some y4 := hg 4 _ rfl
  have g5 : DataW.trod enc Try.prog w base (fun _ => true) held n 9 [c8] = some y5 := hg 5 _ rfl
  have g6 : DataW.trod enc Try.prog w base (fun _ => true) held n 33 [c9] = some y6 := hg 6 _ rfl
  obtain ⟨n0, e0, _, w0⟩ := DataW.trod_int Try.underlying3 g0
  obtain ⟨s1, e1, o1⟩ := stamp_cells g1
  obtain ⟨s2, e2, o2⟩ := stamp_cells g2
  obtain ⟨s3, e3, o3⟩ := stamp_cells g3
  obtain ⟨d, e4, _⟩ := DataW.trod_bool Try.underlying4 g4
  obtain ⟨s, e5, _, _⟩ := DataW.trod_string Try.underlying9 g5
  have hb : ∃ a vn vc l, c9 = .slice a vn vc ∧ Rd w (.slice a vn vc) l := by
    rcases open_ints Try.underlying33 Try.underlying5 (by kernel_rfl) g6 with ⟨hcs, _⟩ | ⟨x, l, c, zs, hcs, _, hl2, hm, hz, _, hcell, hwz⟩
    · simp at hcs
      subst hcs
      exact ⟨none, 0, 0, [], rfl, rd_nil w⟩
    · simp at hcs
      subst hcs
      exact ⟨_, _, _, _, rfl, rd_of_row (.inr ⟨_, rfl, hl2, hm, by simpa using hz, hcell, hwz⟩)⟩
  obtain ⟨a, vn, vc, l, rfl, hr⟩ := hb
  simp at e0 e4 e5
  simp only [sc, List.cons.injEq, and_true] at e1 e2 e3
  obtain ⟨rfl, rfl⟩ := e1
  obtain ⟨rfl, rfl⟩ := e2
  obtain ⟨rfl, rfl⟩ := e3
  subst e0 e4 e5
  exact ⟨⟨n0, s1, s2, s3, d, s, a, vn, vc, l⟩, rfl, ⟨wf_i64 w0, o1, o2, o3, hr⟩⟩
end
set_option maxRecDepth 100000 in
theorem op_of {H : Type} {enc : TypeId × Value → H} {w : World} {r : Reach} {b0 base : Nat} {held : Bool} {v : Value} {d : DataW H} {p : List MemPlace}
    (hv : Value.okWide Try.prog w r b0 40 v) (h : DataW.Trod enc Try.prog w base (fun _ => true) held 40 v d p) : ∃ q, v = ov q ∧ QIn w q := by
  obtain ⟨cs, rfl, hsz⟩ := okWide_struct Try.underlying40 hv
  obtain ⟨fuel, hf⟩ := h
  have hf : DataW.trod enc Try.prog w base (fun _ => true) held fuel 40 cs.toList = some (d, p) := hf
  obtain ⟨q, hq, hi⟩ := op_cells (by have := hsz.trans (by kernel_rfl : Try.prog.cellsOf 40 = 10); simpa using this) hf
  refine ⟨q, ?_, hi⟩
  unfold ov
  rw [← hq]
set_option maxRecDepth 100000 in
theorem opl_of {H : Type} {enc : TypeId × Value → H} {w : World} {r : Reach} {b0 base : Nat} {held : Bool} {v : Value} {d : DataW H} {p : List MemPlace}
    (hv : Value.okWide Try.prog w r b0 22 v) (h : DataW.Trod enc Try.prog w base (fun _ => true) held 22 v d p) : ∃ l, RowF oc w v l ∧ ∀ q ∈ l, QIn w q := by
  obtain ⟨a0, len0, cap0, rfl⟩ := okWide_slice Try.underlying22 hv
  obtain ⟨fuel, hf⟩ := h
  have : Inhabited OpT := ⟨oz⟩
  exact rows_of (f := oc) oc_len (by omega) Try.underlying22 (by kernel_rfl) (QIn w) (fun n cs y hl hy => op_cells hl hy) hf
end
end Go.Proofs.Ytjlpdoomchkfgaa
