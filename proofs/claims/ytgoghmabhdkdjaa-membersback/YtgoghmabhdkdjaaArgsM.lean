/-
  What comes in, opened: bytes, wraps, changes, lists of changes.
-/
import Derived.Test.YtgoghmabhdkdjaaLgt
import Derived.Test.YtgoghmabhdkdjaaArgsD
import Derived.Deep.SlicePairs
import Derived.Lib.SmallJoins
import Derived.ProofKit
import Derived.OpenShut
namespace Go.Proofs.Ytgoghmabhdkdjaa
set_option linter.unusedVariables false
set_option linter.unusedSimpArgs false
set_option synthInstance.maxSize 20000
set_option maxHeartbeats 2000000
set_option maxRecDepth 20000
open Go.RowKit Go.Maps

open Go.ChangeShapes Go.WideShapes Go.ChangeAt
theorem list2 {α : Type} {xs : List α} (h : xs.length = 2) : ∃ c0 c1, xs = [c0, c1] := by
  match xs, h with
  | [c0, c1], _ => exact ⟨c0, c1, rfl⟩
theorem list6 {α : Type} {xs : List α} (h : xs.length = 6) : ∃ c0 c1 c2 c3 c4 c5, xs = [c0, c1, c2, c3, c4, c5] := by
  match xs, h with
  | [c0, c1, c2, c3, c4, c5], _ => exact ⟨c0, c1, c2, c3, c4, c5, rfl⟩
section
variable {H : Type} {enc : TypeId × Value → H} {w : World} {base : Nat} {held : Bool}
set_option maxRecDepth 100000 in
theorem bytes_trod {fuel : Nat} {v : Value} {d : DataW H × List MemPlace} (hf : DataW.trod enc Try.prog w base (fun _ => true) held fuel 36 [v] = some d) : ∃ l, Rd w v l := by
  rcases open_ints Try.underlying36 Try.underlying5 (by kernel_rfl) hf with ⟨hcs, _⟩ | ⟨x, l, c, zs, hcs, _, hl, hm, hz, _, hcell, hwz⟩
  · simp at hcs
    subst hcs
    exact ⟨[], rd_nil w⟩
  · simp at hcs
    subst hcs
    exact ⟨_, rd_of_row (.inr ⟨_, rfl, hl, hm, by simpa using hz, hcell, hwz⟩)⟩
set_option maxRecDepth 100000 in
theorem wraps_trod {fuel : Nat} {v : Value} {d : DataW H × List MemPlace} (hf : DataW.trod enc Try.prog w base (fun _ => true) held fuel 40 [v] = some d) : ∃ qs : List Wq, RowF wq w v qs ∧ ∀ q ∈ qs, Rd w q.2 q.1.b ∧ I64 q.1.w := by
  have : Inhabited Wq := ⟨(⟨0, []⟩, .bool false)⟩
  exact rows_of (f := wq) (k := 2) wq_len (by omega) Try.underlying40 (by kernel_rfl) (fun q => Rd w q.2 q.1.b ∧ I64 q.1.w) (fun n cs y hl hy => by
    obtain ⟨c0, c1, rfl⟩ := list2 hl
    obtain ⟨xs, k, hk, hxy, _, hxl, hg⟩ := DataW.trod_struct Try.underlying80 hy
    obtain ⟨y0, y1, rfl⟩ := list2 (hxl.trans (by rfl))
    have g0 : DataW.trod enc Try.prog w base (fun _ => true) held k 3 [c0] = some y0 := hg 0 _ rfl
    have g1 : DataW.trod enc Try.prog w base (fun _ => true) held k 36 [c1] = some y1 := hg 1 _ rfl
    obtain ⟨n0, e0, _, w0⟩ := DataW.trod_int Try.underlying3 g0
    simp at e0
    subst e0
    obtain ⟨l, hl⟩ := bytes_trod g1
    exact ⟨(⟨n0, l⟩, c1), rfl, hl, wf_i64 w0⟩) hf
set_option maxRecDepth 100000 in
theorem change_trod {fuel : Nat} {cs : List Value} {d : DataW H × List MemPlace} (hl : cs.length = 6) (hy : DataW.trod enc Try.prog w base (fun _ => true) held fuel 42 cs = some d) : ∃ q : Cq, cs = cqf q ∧ ∃ qs, CgAt w q.1 q.2.1 q.2.2 qs := by
  obtain ⟨c0, c1, c2, c3, c4, c5, rfl⟩ := list6 hl
  obtain ⟨xs, k, hk, hxy, _, hxl, hg⟩ := DataW.trod_struct Try.underlying42 hy
  obtain ⟨y0, y1, y2, y3, y4, y5, rfl⟩ := list6 (hxl.trans (by rfl))
  have g0 : DataW.trod enc Try.prog w base (fun _ => true) held k 3 [c0] = some y0 := hg 0 _ rfl
  have g1 : DataW.trod enc Try.prog w base (fun _ => true) held k 3 [c1] = some y1 := hg 1 _ rfl
  have g2 : DataW.trod enc Try.prog w base (fun _ => true) held k 22 [c2] = some y2 := hg 2 _ rfl
  have g3 : DataW.trod enc Try.prog w base (fun _ => true) held k 3 [c3] = some y3 := hg 3 _ rfl
  have g4 : DataW.trod enc Try.prog w base (fun _ => true) held k 40 [c4] = some y4 := hg 4 _ rfl
  have g5 : DataW.trod enc Try.prog w base (fun _ => true) held k 36 [c5] = some y5 := hg 5 _ rfl
  obtain ⟨n0, e0, _, w0⟩ := DataW.trod_int Try.underlying3 g0
  obtain ⟨n1, e1, _, w1⟩ := DataW.trod_int Try.underlying3 g1
  obtain ⟨n2, e2, _, w2⟩ := DataW.trod_int Try.underlying22 g2
  obtain ⟨n3, e3, _, w3⟩ := DataW.trod_int Try.underlying3 g3
  simp at e0 e1 e2 e3
  subst e0 e1 e2 e3
  obtain ⟨qs, hq1, hq2⟩ := wraps_trod g4
  obtain ⟨l, hl⟩ := bytes_trod g5
  exact ⟨(⟨n0, n1, n2, n3, qs.map (·.1), l⟩, c4, c5), rfl, qs, ⟨hq1, fun q hq => (hq2 q hq).1, fun q hq => (hq2 q hq).2, rfl, hl, wf_i64 w0, wf_i64 w1, wf_u64 w2, wf_i64 w3⟩⟩
end
set_option maxRecDepth 100000 in
theorem bytes_of {H : Type} {enc : TypeId × Value → H} {w : World} {r : Reach} {b0 base : Nat} {held : Bool} {v : Value} {d : DataW H} {p : List MemPlace}
    (hv : Value.okWide Try.prog w r b0 36 v) (h : DataW.Trod enc Try.prog w base (fun _ => true) held 36 v d p) : ∃ l, Rd w v l := by
  obtain ⟨a, len, cap, rfl⟩ := okWide_slice Try.underlying36 hv
  obtain ⟨fuel, hf⟩ := h
  have hf' : DataW.trod enc Try.prog w base (fun _ => true) held fuel 36 [.slice a len cap] = some (d, p) := by simpa [Value.cells] using hf
  exact bytes_trod hf'
set_option maxRecDepth 100000 in
theorem changes_of {H : Type} {enc : TypeId × Value → H} {w : World} {r : Reach} {b0 base : Nat} {held : Bool} {v : Value} {d : DataW H} {p : List MemPlace}
    (hv0 : Value.okWide Try.prog w r b0 23 v) (h : DataW.Trod enc Try.prog w base (fun _ => true) held 23 v d p) : ∃ qs, ChsAt w v qs := by
  obtain ⟨a, len, cap, rfl⟩ := okWide_slice Try.underlying23 hv0
  obtain ⟨fuel, hf⟩ := h
  have hf' : DataW.trod enc Try.prog w base (fun _ => true) held fuel 23 [.slice a len cap] = some (d, p) := by simpa [Value.cells] using hf
  have : Inhabited Cq := ⟨(⟨0, 0, 0, 0, [], []⟩, .bool false, .bool false)⟩
  obtain ⟨qs, h1, h2⟩ := rows_of (f := cqf) (k := 6) cqf_len (by omega) Try.underlying23 (by kernel_rfl) (fun q => ∃ qs, CgAt w q.1 q.2.1 q.2.2 qs) (fun n cs y hl hy => change_trod hl hy) hf'
  exact ⟨qs, h1, h2⟩
end Go.Proofs.Ytgoghmabhdkdjaa
