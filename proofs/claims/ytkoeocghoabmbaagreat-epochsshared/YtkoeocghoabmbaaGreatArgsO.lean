/-
  What comes in, opened: draws, bytes, wraps, lists of steps.
-/
import Derived.Test.YtkoeocghoabmbaaGreatLgs
import Derived.Test.YtkoeocghoabmbaaGreatRowsF
import Derived.Deep.SlicePairs
import Derived.Lib.SmallJoins
import Derived.ProofKit
import Derived.OpenShut
namespace Go.Proofs.YtkoeocghoabmbaaGreat
set_option linter.unusedVariables false
set_option linter.unusedSimpArgs false
set_option synthInstance.maxSize 20000
set_option maxHeartbeats 2000000
set_option maxRecDepth 20000
open Go.RowKit Go.Maps
open Go.ChangeShapes Go.WideShapes Go.ChangeAt
theorem rdU_of_row {w : World} {a : Option Addr} {len cap : Nat} {zs : List Int}
    (h : (a = none ∧ len = 0 ∧ cap = 0 ∧ zs = []) ∨ ∃ x, a = some x ∧ len ≤ cap ∧ cap ≤ maxLen ∧ zs.length = cap ∧ (∀ i, i < zs.length → w.cell? (x.add i) = some (.int .u64 (zs.getD i 0))) ∧ ∀ n ∈ zs, (Lit.int .u64 n).wf = true) :
    RdU w (.slice a len cap) (zs.take len) := by
  rcases h with ⟨rfl, rfl, rfl, rfl⟩ | ⟨x, rfl, hl, hm, hz, hc, hw⟩
  · exact rdU_nil w
  · have hlen : (zs.take len).length = len := by rw [List.length_take]; omega
    refine ⟨fun n hn => wf_u64 (hw n (List.mem_of_mem_take hn)), some x, cap, by rw [hlen], by omega, hm, (fun h => by cases h), fun hp => ?_⟩
    obtain ⟨b, off, spot⟩ := x
    have h0 := hc 0 (by omega)
    have hspot : spot = none := by simpa [Addr.add] using World.cell?_spot h0
    subst hspot
    refine ⟨b, off, rfl, fun j hj => ?_⟩
    have := hc j (by omega)
    rw [Addr.add_lit] at this
    rw [this, List.getD_eq_getElem?_getD, List.getD_eq_getElem?_getD, List.getElem?_take, if_pos (by omega)]
theorem list2 {α : Type} {xs : List α} (h : xs.length = 2) : ∃ c0 c1, xs = [c0, c1] := by
  match xs, h with
  | [c0, c1], _ => exact ⟨c0, c1, rfl⟩
section
variable {H : Type} {enc : TypeId × Value → H} {w : World} {base : Nat} {held : Bool}
set_option maxRecDepth 100000 in
theorem bytes_trod {fuel : Nat} {v : Value} {d : DataW H × List MemPlace} (hf : DataW.trod enc Tryz.prog w base (fun _ => true) held fuel 31 [v] = some d) : ∃ l, Rd w v l := by
  rcases open_ints Tryz.underlying31 Tryz.underlying5 (by kernel_rfl) hf with ⟨hcs, _⟩ | ⟨x, l, c, zs, hcs, _, hl, hm, hz, _, hcell, hwz⟩
  · simp at hcs
    subst hcs
    exact ⟨[], rd_nil w⟩
  · simp at hcs
    subst hcs
    exact ⟨_, rd_of_row (.inr ⟨_, rfl, hl, hm, by simpa using hz, hcell, hwz⟩)⟩
set_option maxRecDepth 100000 in
theorem wraps_trod {fuel : Nat} {v : Value} {d : DataW H × List MemPlace} (hf : DataW.trod enc Tryz.prog w base (fun _ => true) held fuel 30 [v] = some d) : ∃ qs : List Wq, RowF wq w v qs ∧ ∀ q ∈ qs, Rd w q.2 q.1.b ∧ I64 q.1.w := by
  have : Inhabited Wq := ⟨(⟨0, []⟩, .bool false)⟩
  exact rows_of (f := wq) (k := 2) wq_len (by omega) Tryz.underlying30 (by kernel_rfl) (fun q => Rd w q.2 q.1.b ∧ I64 q.1.w) (fun n cs y hl hy => by
    obtain ⟨c0, c1, rfl⟩ := list2 hl
    obtain ⟨xs, k, hk, hxy, _, hxl, hg⟩ := DataW.trod_struct Tryz.underlying82 hy
    obtain ⟨y0, y1, rfl⟩ := list2 (hxl.trans (by rfl))
    have g0 : DataW.trod enc Tryz.prog w base (fun _ => true) held k 3 [c0] = some y0 := hg 0 _ rfl
    have g1 : DataW.trod enc Tryz.prog w base (fun _ => true) held k 31 [c1] = some y1 := hg 1 _ rfl
    obtain ⟨n0, e0, _, w0⟩ := DataW.trod_int Tryz.underlying3 g0
    simp at e0
    subst e0
    obtain ⟨l, hl⟩ := bytes_trod g1
    exact ⟨(⟨n0, l⟩, c1), rfl, hl, wf_i64 w0⟩) hf
set_option maxRecDepth 100000 in
theorem op_trod {fuel : Nat} {cs : List Value} {d : DataW H × List MemPlace} (hl : cs.length = 5) (hy : DataW.trod enc Tryz.prog w base (fun _ => true) held fuel 33 cs = some d) : ∃ q : Oq, cs = oqf q ∧ ∃ qs, OpRd w q qs := by
  obtain ⟨c0, c1, c2, c3, c4, rfl⟩ := list5 hl
  obtain ⟨xs, k, hk, hxy, _, hxl, hg⟩ := DataW.trod_struct Tryz.underlying33 hy
  obtain ⟨y0, y1, y2, y3, y4, rfl⟩ := list5 (hxl.trans (by rfl))
  have g0 : DataW.trod enc Tryz.prog w base (fun _ => true) held k 3 [c0] = some y0 := hg 0 _ rfl
  have g1 : DataW.trod enc Tryz.prog w base (fun _ => true) held k 3 [c1] = some y1 := hg 1 _ rfl
  have g2 : DataW.trod enc Tryz.prog w base (fun _ => true) held k 29 [c2] = some y2 := hg 2 _ rfl
  have g3 : DataW.trod enc Tryz.prog w base (fun _ => true) held k 30 [c3] = some y3 := hg 3 _ rfl
  have g4 : DataW.trod enc Tryz.prog w base (fun _ => true) held k 31 [c4] = some y4 := hg 4 _ rfl
  obtain ⟨n0, e0, _, w0⟩ := DataW.trod_int Tryz.underlying3 g0
  obtain ⟨n1, e1, _, w1⟩ := DataW.trod_int Tryz.underlying3 g1
  obtain ⟨n2, e2, _, w2⟩ := DataW.trod_int Tryz.underlying29 g2
  simp at e0 e1 e2
  subst e0 e1 e2
  obtain ⟨qs, hq1, hq2⟩ := wraps_trod g3
  obtain ⟨l, hl⟩ := bytes_trod g4
  exact ⟨(⟨n0, n1, n2, qs.map (·.1), l⟩, c3, c4), rfl, qs, ⟨⟨hq1, fun q hq => (hq2 q hq).1, fun q hq => (hq2 q hq).2, rfl, hl, by unfold I64; dsimp only; omega, by unfold I64; dsimp only; omega, by unfold U64; dsimp only; omega, by unfold I64; dsimp only; omega⟩, wf_i64 w0, wf_i64 w1, wf_u64 w2⟩⟩
end
set_option maxRecDepth 100000 in
theorem ops_of {H : Type} {enc : TypeId × Value → H} {w : World} {r : Reach} {b0 base : Nat} {held : Bool} {v : Value} {d : DataW H} {p : List MemPlace}
    (hv0 : Value.okWide Tryz.prog w r b0 23 v) (h : DataW.Trod enc Tryz.prog w base (fun _ => true) held 23 v d p) : ∃ qs, OpsAt w v qs := by
  obtain ⟨a, len, cap, rfl⟩ := okWide_slice Tryz.underlying23 hv0
  obtain ⟨fuel, hf⟩ := h
  have hf' : DataW.trod enc Tryz.prog w base (fun _ => true) held fuel 23 [.slice a len cap] = some (d, p) := by simpa [Value.cells] using hf
  have : Inhabited Oq := ⟨(⟨0, 0, 0, [], []⟩, .bool false, .bool false)⟩
  obtain ⟨qs, h1, h2⟩ := rows_of (f := oqf) (k := 5) oqf_len (by omega) Tryz.underlying23 (by kernel_rfl) (fun q => ∃ qs, OpRd w q qs) (fun n cs y hl hy => op_trod hl hy) hf'
  exact ⟨qs, h1, h2⟩
set_option maxRecDepth 100000 in
theorem uints_of {H : Type} {enc : TypeId × Value → H} {w : World} {r : Reach} {b0 base : Nat} {held : Bool} {v : Value} {d : DataW H} {p : List MemPlace}
    (hv : Value.okWide Tryz.prog w r b0 22 v) (h : DataW.Trod enc Tryz.prog w base (fun _ => true) held 22 v d p) : ∃ l, RdU w v l := by
  obtain ⟨a0, len0, cap0, rfl⟩ := okWide_slice Tryz.underlying22 hv
  obtain ⟨fuel, hf⟩ := h
  rcases open_ints Tryz.underlying22 Tryz.underlying29 (by kernel_rfl) hf with ⟨hcs, _⟩ | ⟨x, l, c, zs, hcs, _, hl, hm, hz, _, hcell, hwz⟩
  · simp [Value.cells] at hcs
    obtain ⟨rfl, rfl, rfl⟩ := hcs
    exact ⟨[], rdU_nil w⟩
  · simp [Value.cells] at hcs
    obtain ⟨rfl, rfl, rfl⟩ := hcs
    exact ⟨_, rdU_of_row (.inr ⟨_, rfl, hl, hm, by simpa using hz, hcell, hwz⟩)⟩
end Go.Proofs.YtkoeocghoabmbaaGreat
