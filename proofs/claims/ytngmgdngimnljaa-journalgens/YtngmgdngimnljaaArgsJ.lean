/-
  What comes in, opened: a slice of bytes, a slice of such slices, raw sectors, acts.
-/
import Derived.Test.YtngmgdngimnljaaFrm
import Derived.Test.YtngmgdngimnljaaArgsD
import Derived.Deep.SlicePairs
import Derived.Lib.SmallJoins
import Derived.ProofKit
import Derived.OpenShut
namespace Go.Proofs.Ytngmgdngimnljaa
open Go.ChangeShapes Go.WideShapes Go.ChangeAt Go.RowKit
set_option linter.unusedVariables false
set_option linter.unusedSimpArgs false

theorem wf_u32 {n : Int} (h : (Lit.int .u32 n).wf = true) : U32 n := by
  simp [Lit.wf, IntKind.min, IntKind.max, IntKind.signed, IntKind.bits] at h
  unfold U32
  omega
section
variable {H : Type} {enc : TypeId × Value → H} {w : World} {base : Nat} {held : Bool}
set_option maxRecDepth 100000 in
theorem bytes_trod {fuel : Nat} {v : Value} {d : DataW H × List MemPlace} (hf : DataW.trod enc Try.prog w base (fun _ => true) held fuel 23 [v] = some d) : ∃ l, Rd w v l := by
  rcases open_ints Try.underlying23 Try.underlying5 (by kernel_rfl) hf with ⟨hcs, _⟩ | ⟨x, l, c, zs, hcs, _, hl, hm, hz, _, hcell, hwz⟩
  · simp at hcs
    subst hcs
    exact ⟨[], rd_nil w⟩
  · simp at hcs
    subst hcs
    exact ⟨_, rd_of_row (.inr ⟨_, rfl, hl, hm, by simpa using hz, hcell, hwz⟩)⟩
end
set_option maxRecDepth 100000 in
theorem bytes_of {H : Type} {enc : TypeId × Value → H} {w : World} {r : Reach} {b0 base : Nat} {held : Bool} {v : Value} {d : DataW H} {p : List MemPlace}
    (hv : Value.okWide Try.prog w r b0 23 v) (h : DataW.Trod enc Try.prog w base (fun _ => true) held 23 v d p) : ∃ l, Rd w v l := by
  obtain ⟨a, len, cap, rfl⟩ := okWide_slice Try.underlying23 hv
  obtain ⟨fuel, hf⟩ := h
  have hf' : DataW.trod enc Try.prog w base (fun _ => true) held fuel 23 [.slice a len cap] = some (d, p) := by simpa [Value.cells] using hf
  exact bytes_trod hf'
set_option maxRecDepth 100000 in
theorem lists_of {H : Type} {enc : TypeId × Value → H} {w : World} {r : Reach} {b0 base : Nat} {held : Bool} {v : Value} {d : DataW H} {p : List MemPlace}
    (hv : Value.okWide Try.prog w r b0 25 v) (h : DataW.Trod enc Try.prog w base (fun _ => true) held 25 v d p) : ∃ qs, RL w v qs := by
  obtain ⟨a, len, cap, rfl⟩ := okWide_slice Try.underlying25 hv
  obtain ⟨fuel, hf⟩ := h
  have hf' : DataW.trod enc Try.prog w base (fun _ => true) held fuel 25 [.slice a len cap] = some (d, p) := by simpa [Value.cells] using hf
  have : Inhabited VB := ⟨(nilv, [])⟩
  obtain ⟨qs, h1, h2⟩ := rows_of (f := lc) (k := 1) lc_len (by omega) Try.underlying25 (by kernel_rfl) (fun q => Rd w q.1 q.2) (fun n cs y hl hy => by
    match cs, hl with
    | [c0], _ =>
      obtain ⟨l, hl⟩ := bytes_trod hy
      exact ⟨(c0, l), rfl, hl⟩) hf'
  exact ⟨qs, h1, h2⟩

/-- A raw sector as it came in. -/
structure RawJ where
  gen : Int
  round : Int
  seq : Int
  bv : Value
  b : List Int
  part : Int
  at' : Int
  by' : Int
def rwc (q : RawJ) : List Value := [.int .u32 q.gen, .int .u32 q.round, .int .u32 q.seq, q.bv, .int .i64 q.part, .int .i64 q.at', .int .u8 q.by']
theorem rwc_len (q : RawJ) : (rwc q).length = 7 := rfl
structure RawOk (w : World) (q : RawJ) : Prop where
  g : U32 q.gen
  r : U32 q.round
  s : U32 q.seq
  b : Rd w q.bv q.b
  p : I64 q.part
  a : I64 q.at'
  y : 0 ≤ q.by' ∧ q.by' < 256
theorem list7 {α : Type} {xs : List α} (h : xs.length = 7) : ∃ c0 c1 c2 c3 c4 c5 c6, xs = [c0, c1, c2, c3, c4, c5, c6] := by
  match xs, h with
  | [c0, c1, c2, c3, c4, c5, c6], _ => exact ⟨c0, c1, c2, c3, c4, c5, c6, rfl⟩
set_option maxRecDepth 100000 in
theorem raws_of {H : Type} {enc : TypeId × Value → H} {w : World} {r : Reach} {b0 base : Nat} {held : Bool} {v : Value} {d : DataW H} {p : List MemPlace}
    (hv0 : Value.okWide Try.prog w r b0 32 v) (h : DataW.Trod enc Try.prog w base (fun _ => true) held 32 v d p) : ∃ qs, RowF rwc w v qs ∧ ∀ q ∈ qs, RawOk w q := by
  obtain ⟨a, len, cap, rfl⟩ := okWide_slice Try.underlying32 hv0
  obtain ⟨fuel, hf⟩ := h
  have hf' : DataW.trod enc Try.prog w base (fun _ => true) held fuel 32 [.slice a len cap] = some (d, p) := by simpa [Value.cells] using hf
  have : Inhabited RawJ := ⟨⟨0, 0, 0, nilv, [], 0, 0, 0⟩⟩
  exact rows_of (f := rwc) (k := 7) rwc_len (by omega) Try.underlying32 (by kernel_rfl) (RawOk w) (fun n cs y hl hy => by
    obtain ⟨c0, c1, c2, c3, c4, c5, c6, rfl⟩ := list7 hl
    obtain ⟨xs, k, hk, hxy, _, hxl, hg⟩ := DataW.trod_struct Try.underlying38 hy
    obtain ⟨y0, y1, y2, y3, y4, y5, y6, rfl⟩ := list7 (hxl.trans (by rfl))
    have g0 : DataW.trod enc Try.prog w base (fun _ => true) held k 22 [c0] = some y0 := hg 0 _ rfl
    have g1 : DataW.trod enc Try.prog w base (fun _ => true) held k 22 [c1] = some y1 := hg 1 _ rfl
    have g2 : DataW.trod enc Try.prog w base (fun _ => true) held k 22 [c2] = some y2 := hg 2 _ rfl
    have g3 : DataW.trod enc Try.prog w base (fun _ => true) held k 23 [c3] = some y3 := hg 3 _ rfl
    have g4 : DataW.trod enc Try.prog w base (fun _ => true) held k 3 [c4] = some y4 := hg 4 _ rfl
    have g5 : DataW.trod enc Try.prog w base (fun _ => true) held k 3 [c5] = some y5 := hg 5 _ rfl
    have g6 : DataW.trod enc Try.prog w base (fun _ => true) held k 5 [c6] = some y6 := hg 6 _ rfl
    obtain ⟨n0, e0, _, w0⟩ := DataW.trod_int Try.underlying22 g0
    obtain ⟨n1, e1, _, w1⟩ := DataW.trod_int Try.underlying22 g1
    obtain ⟨n2, e2, _, w2⟩ := DataW.trod_int Try.underlying22 g2
    obtain ⟨n4, e4, _, w4⟩ := DataW.trod_int Try.underlying3 g4
    obtain ⟨n5, e5, _, w5⟩ := DataW.trod_int Try.underlying3 g5
    obtain ⟨n6, e6, _, w6⟩ := DataW.trod_int Try.underlying5 g6
    simp at e0 e1 e2 e4 e5 e6
    subst e0 e1 e2 e4 e5 e6
    obtain ⟨l, hl⟩ := bytes_trod g3
    exact ⟨⟨n0, n1, n2, c3, l, n4, n5, n6⟩, rfl, ⟨wf_u32 w0, wf_u32 w1, wf_u32 w2, hl, wf_i64 w4, wf_i64 w5, wf_u8 w6⟩⟩) hf'

/-- An act as it came in. -/
structure ActJ where
  bv : Value
  b : List Int
  armed : Int
  kv : Value
  ks : List Bool
def acc (q : ActJ) : List Value := [q.bv, .int .i64 q.armed, q.kv]
theorem acc_len (q : ActJ) : (acc q).length = 3 := rfl
structure ActOk (w : World) (q : ActJ) : Prop where
  b : Rd w q.bv q.b
  a : I64 q.armed
  k : RowF bc w q.kv q.ks
theorem list3 {α : Type} {xs : List α} (h : xs.length = 3) : ∃ c0 c1 c2, xs = [c0, c1, c2] := by
  match xs, h with
  | [c0, c1, c2], _ => exact ⟨c0, c1, c2, rfl⟩
set_option maxRecDepth 100000 in
theorem acts_of {H : Type} {enc : TypeId × Value → H} {w : World} {r : Reach} {b0 base : Nat} {held : Bool} {v : Value} {d : DataW H} {p : List MemPlace}
    (hv0 : Value.okWide Try.prog w r b0 59 v) (h : DataW.Trod enc Try.prog w base (fun _ => true) held 59 v d p) : ∃ qs, RowF acc w v qs ∧ ∀ q ∈ qs, ActOk w q := by
  obtain ⟨a, len, cap, rfl⟩ := okWide_slice Try.underlying59 hv0
  obtain ⟨fuel, hf⟩ := h
  have hf' : DataW.trod enc Try.prog w base (fun _ => true) held fuel 59 [.slice a len cap] = some (d, p) := by simpa [Value.cells] using hf
  have : Inhabited ActJ := ⟨⟨nilv, [], 0, nilv, []⟩⟩
  exact rows_of (f := acc) (k := 3) acc_len (by omega) Try.underlying59 (by kernel_rfl) (ActOk w) (fun n cs y hl hy => by
    obtain ⟨c0, c1, c2, rfl⟩ := list3 hl
    obtain ⟨xs, k, hk, hxy, _, hxl, hg⟩ := DataW.trod_struct Try.underlying62 hy
    obtain ⟨y0, y1, y2, rfl⟩ := list3 (hxl.trans (by rfl))
    have g0 : DataW.trod enc Try.prog w base (fun _ => true) held k 23 [c0] = some y0 := hg 0 _ rfl
    have g1 : DataW.trod enc Try.prog w base (fun _ => true) held k 3 [c1] = some y1 := hg 1 _ rfl
    have g2 : DataW.trod enc Try.prog w base (fun _ => true) held k 33 [c2] = some y2 := hg 2 _ rfl
    obtain ⟨l, hrl⟩ := bytes_trod g0
    obtain ⟨n1, e1, _, w1⟩ := DataW.trod_int Try.underlying3 g1
    simp at e1
    subst e1
    obtain ⟨ks, hks⟩ := bools_trod g2
    exact ⟨⟨c0, l, n1, c2, ks⟩, rfl, ⟨hrl, wf_i64 w1, hks⟩⟩) hf'
end Go.Proofs.Ytngmgdngimnljaa
