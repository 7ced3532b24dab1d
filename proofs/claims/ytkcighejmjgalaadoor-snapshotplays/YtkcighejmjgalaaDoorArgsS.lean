/-
  What comes in, opened: bytes, acts; the table that the program lays.
-/
import Derived.Test.YtkcighejmjgalaaDoorAlv
import Derived.Test.YtkcighejmjgalaaDoorArgsD
import Derived.Deep.SlicePairs
import Derived.Lib.SmallJoins
import Derived.ProofKit
import Derived.OpenShut
import Derived.Lib.LaidTab
namespace Go.Proofs.YtkcighejmjgalaaDoor
set_option linter.unusedVariables false
set_option linter.unusedSimpArgs false
set_option synthInstance.maxSize 20000
set_option maxHeartbeats 2000000
set_option maxRecDepth 20000
open Go.RowKit Go.Maps

open Go.ChangeShapes Go.WideShapes Go.ChangeAt
section
variable {H : Type} {enc : TypeId × Value → H} {w : World} {base : Nat} {held : Bool}
set_option maxRecDepth 100000 in
theorem bytes_trod {fuel : Nat} {v : Value} {d : DataW H × List MemPlace} (hf : DataW.trod enc Tryd.prog w base (fun _ => true) held fuel 30 [v] = some d) : ∃ l, Rd w v l := by
  rcases open_ints Tryd.underlying30 Tryd.underlying5 (by kernel_rfl) hf with ⟨hcs, _⟩ | ⟨x, l, c, zs, hcs, _, hl, hm, hz, _, hcell, hwz⟩
  · simp at hcs
    subst hcs
    exact ⟨[], rd_nil w⟩
  · simp at hcs
    subst hcs
    exact ⟨_, rd_of_row (.inr ⟨_, rfl, hl, hm, by simpa using hz, hcell, hwz⟩)⟩
end
set_option maxRecDepth 100000 in
theorem bytes_of {H : Type} {enc : TypeId × Value → H} {w : World} {r : Reach} {b0 base : Nat} {held : Bool} {v : Value} {d : DataW H} {p : List MemPlace}
    (hv : Value.okWide Tryd.prog w r b0 30 v) (h : DataW.Trod enc Tryd.prog w base (fun _ => true) held 30 v d p) : ∃ l, Rd w v l := by
  obtain ⟨a, len, cap, rfl⟩ := okWide_slice Tryd.underlying30 hv
  obtain ⟨fuel, hf⟩ := h
  have hf' : DataW.trod enc Tryd.prog w base (fun _ => true) held fuel 30 [.slice a len cap] = some (d, p) := by simpa [Value.cells] using hf
  exact bytes_trod hf'
/-- An act as it came in. -/
structure ActS where
  kind : Int
  bv : Value
  b : List Int
  armed : Int
  kv : Value
  ks : List Bool
def acs (q : ActS) : List Value := [.int .i64 q.kind, q.bv, .int .i64 q.armed, q.kv]
theorem acs_len (q : ActS) : (acs q).length = 4 := rfl
structure ActOk (w : World) (q : ActS) : Prop where
  i : I64 q.kind
  b : Rd w q.bv q.b
  a : I64 q.armed
  k : RowF bc w q.kv q.ks
theorem list4 {α : Type} {xs : List α} (h : xs.length = 4) : ∃ c0 c1 c2 c3, xs = [c0, c1, c2, c3] := by
  match xs, h with
  | [c0, c1, c2, c3], _ => exact ⟨c0, c1, c2, c3, rfl⟩
set_option maxRecDepth 100000 in
theorem acts_of {H : Type} {enc : TypeId × Value → H} {w : World} {r : Reach} {b0 base : Nat} {held : Bool} {v : Value} {d : DataW H} {p : List MemPlace}
    (hv0 : Value.okWide Tryd.prog w r b0 22 v) (h : DataW.Trod enc Tryd.prog w base (fun _ => true) held 22 v d p) : ∃ qs, RowF acs w v qs ∧ ∀ q ∈ qs, ActOk w q := by
  obtain ⟨a, len, cap, rfl⟩ := okWide_slice Tryd.underlying22 hv0
  obtain ⟨fuel, hf⟩ := h
  have hf' : DataW.trod enc Tryd.prog w base (fun _ => true) held fuel 22 [.slice a len cap] = some (d, p) := by simpa [Value.cells] using hf
  have : Inhabited ActS := ⟨⟨0, nilv, [], 0, nilv, []⟩⟩
  exact rows_of (f := acs) (k := 4) acs_len (by omega) Tryd.underlying22 (by kernel_rfl) (ActOk w) (fun n cs y hl hy => by
    obtain ⟨c0, c1, c2, c3, rfl⟩ := list4 hl
    obtain ⟨xs, k, hk, hxy, _, hxl, hg⟩ := DataW.trod_struct Tryd.underlying38 hy
    obtain ⟨y0, y1, y2, y3, rfl⟩ := list4 (hxl.trans (by rfl))
    have g0 : DataW.trod enc Tryd.prog w base (fun _ => true) held k 3 [c0] = some y0 := hg 0 _ rfl
    have g1 : DataW.trod enc Tryd.prog w base (fun _ => true) held k 30 [c1] = some y1 := hg 1 _ rfl
    have g2 : DataW.trod enc Tryd.prog w base (fun _ => true) held k 3 [c2] = some y2 := hg 2 _ rfl
    have g3 : DataW.trod enc Tryd.prog w base (fun _ => true) held k 36 [c3] = some y3 := hg 3 _ rfl
    obtain ⟨n0, e0, _, w0⟩ := DataW.trod_int Tryd.underlying3 g0
    obtain ⟨l, hrl⟩ := bytes_trod g1
    obtain ⟨n2, e2, _, w2⟩ := DataW.trod_int Tryd.underlying3 g2
    simp at e0 e2
    subst e0 e2
    obtain ⟨ks, hks⟩ := bools_trod g3
    exact ⟨⟨n0, c1, l, n2, c3, ks⟩, rfl, ⟨wf_i64 w0, hrl, wf_i64 w2, hks⟩⟩) hf'
/-! ### The table -/
theorem gTabType : (Tryd.prog.globals[0]?).map (·.type) = some 107 := by kernel_rfl
theorem cells107 : Tryd.prog.cellsOf 107 = 4 := by kernel_rfl
theorem cells106 : Tryd.prog.cellsOf 106 = 1 := by kernel_rfl
theorem tab_of {W : World} {V : String} (hV : Tryd.prog.globalNamed V = some 0) (h : laidMet Tryd.prog [(V, Lib.tabData .u64 [24, 16, 8, 0])] W) : Tab W := by
  have t := Lib.tabIs_of_head (rest := []) hV gTabType Tryd.underlying107 Tryd.underlying106 cells106 cells107 h
  exact ⟨t.cell hV 0 (by decide), t.cell hV 1 (by decide), t.cell hV 2 (by decide), t.cell hV 3 (by decide)⟩
end Go.Proofs.YtkcighejmjgalaaDoor
