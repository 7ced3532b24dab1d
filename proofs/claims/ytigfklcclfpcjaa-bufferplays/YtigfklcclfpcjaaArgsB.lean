/-
  What comes in, opened: slices of entries, of integers.
-/
import Derived.Test.YtigfklcclfpcjaaArgsE
import Derived.Test.YtigfklcclfpcjaaRowsE
import Derived.Deep.Slices
namespace Go.Proofs.Ytigfklcclfpcjaa
open Go.ChangeShapes Go.WideShapes Go.ChangeAt Go.RowKit
set_option linter.unusedVariables false
set_option linter.unusedSimpArgs false

theorem list8 {α : Type} {xs : List α} (h : xs.length = 8) : ∃ c0 c1 c2 c3 c4 c5 c6 c7, xs = [c0, c1, c2, c3, c4, c5, c6, c7] := by
  match xs, h with
  | [c0, c1, c2, c3, c4, c5, c6, c7], _ => exact ⟨c0, c1, c2, c3, c4, c5, c6, c7, rfl⟩

set_option maxRecDepth 100000 in
theorem trod_bytes {H : Type} {enc : TypeId × Value → H} {w : World} {base n : Nat} {held : Bool} {c : Value} {y : DataW H × List MemPlace} (g5 : DataW.trod enc Try.prog w base (fun _ => true) held n 36 [c] = some y) : ∃ l, Rd w c l := by
  rcases open_ints Try.underlying36 Try.underlying5 (by kernel_rfl) g5 with ⟨hcs, _⟩ | ⟨x, l, c', zs, hcs, _, hl2, hm, hz, _, hcell, hwz⟩
  · simp at hcs
    subst hcs
    exact ⟨[], rd_nil w⟩
  · simp at hcs
    subst hcs
    exact ⟨_, rd_of_row (.inr ⟨_, rfl, hl2, hm, by simpa using hz, hcell, hwz⟩)⟩

set_option maxRecDepth 100000 in
theorem trod_entry {H : Type} {enc : TypeId × Value → H} {w : World} {base fuel : Nat} {held : Bool} {c0 c1 c2 c3 c4 c5 c6 c7 : Value} {y : DataW H × List MemPlace} (hf : DataW.trod enc Try.prog w base (fun _ => true) held fuel 38 [c0, c1, c2, c3, c4, c5, c6, c7] = some y) :
    ∃ e x, EOk e ∧ Rd w x e.b ∧ [c0, c1, c2, c3, c4, c5, c6, c7] = ec e x := by
  obtain ⟨xs, n, _, hx, hl, hlen, hg⟩ := DataW.trod_struct Try.underlying38 hf
  obtain ⟨y0, y1, y2, y3, y4, y5, y6, rfl⟩ := list7 (hlen.trans (by rfl))
  have g0 : DataW.trod enc Try.prog w base (fun _ => true) held n 3 [c0] = some y0 := hg 0 _ rfl
  have g1 : DataW.trod enc Try.prog w base (fun _ => true) held n 3 [c1] = some y1 := hg 1 _ rfl
  have g2 : DataW.trod enc Try.prog w base (fun _ => true) held n 33 [c2] = some y2 := hg 2 _ rfl
  have g3 : DataW.trod enc Try.prog w base (fun _ => true) held n 35 [c3, c4] = some y3 := hg 3 _ rfl
  have g4 : DataW.trod enc Try.prog w base (fun _ => true) held n 3 [c5] = some y4 := hg 4 _ rfl
  have g5 : DataW.trod enc Try.prog w base (fun _ => true) held n 36 [c6] = some y5 := hg 5 _ rfl
  have g6 : DataW.trod enc Try.prog w base (fun _ => true) held n 33 [c7] = some y6 := hg 6 _ rfl
  obtain ⟨z0, z1, m, _, _, s0, s1⟩ := trod_struct2 Try.underlying35 g3
  have s0' : DataW.trod enc Try.prog w base (fun _ => true) held m 2 [c3] = some z0 := s0
  have s1' : DataW.trod enc Try.prog w base (fun _ => true) held m 3 [c4] = some z1 := s1
  obtain ⟨n0, e0, _, w0⟩ := DataW.trod_int Try.underlying3 g0
  obtain ⟨n1, e1, _, w1⟩ := DataW.trod_int Try.underlying3 g1
  obtain ⟨n2, e2, _, w2⟩ := DataW.trod_int Try.underlying33 g2
  obtain ⟨n3, e3, _, w3⟩ := DataW.trod_int Try.underlying2 s0'
  obtain ⟨n4, e4, _, w4⟩ := DataW.trod_int Try.underlying3 s1'
  obtain ⟨n5, e5, _, w5⟩ := DataW.trod_int Try.underlying3 g4
  obtain ⟨n7, e7, _, w7⟩ := DataW.trod_int Try.underlying33 g6
  simp at e0 e1 e2 e3 e4 e5 e7
  subst e0 e1 e2 e3 e4 e5 e7
  obtain ⟨l, hb⟩ := trod_bytes g5
  exact ⟨⟨n0, n1, n2, n3, n4, n5, l, n7⟩, c6, ⟨wf_i64 w0, wf_i64 w1, wf_u64 w2, wf_i64 w3, wf_i64 w4, wf_i64 w5, wf_u64 w7, hb.oct⟩, hb, rfl⟩

set_option maxRecDepth 100000 in
theorem entries_of {H : Type} {enc : TypeId × Value → H} {w : World} {r : Reach} {b0 base : Nat} {held : Bool} {v : Value} {d : DataW H} {p : List MemPlace}
    (hv0 : Value.okWide Try.prog w r b0 30 v) (h : DataW.Trod enc Try.prog w base (fun _ => true) held 30 v d p) : ∃ ps, RowE w v ps ∧ Ents w (fun _ => 0) ps := by
  obtain ⟨a, len, cap, rfl⟩ := okWide_slice Try.underlying30 hv0
  obtain ⟨fuel, hf⟩ := h
  rcases Deep.open_slice Try.underlying30 hf with ⟨hcs, _⟩ | ⟨y, l, c, m, n, D, Pl, hcs, _, hl, hm, hmm, _, hx⟩
  · simp [Value.cells] at hcs
    obtain ⟨rfl, rfl, rfl⟩ := hcs
    exact ⟨[], rowE_nil w, Ents.nil _ _⟩
  · simp [Value.cells] at hcs
    obtain ⟨rfl, rfl, rfl⟩ := hcs
    have hlm : len ≤ m := by rw [hmm]; split <;> omega
    have ce : Try.prog.cellsOf 38 = 8 := by kernel_rfl
    have each : ∀ i, i < len → ∃ z : Ent × Value, (∀ k u, (ec z.1 z.2)[k]? = some u → w.cell? (y.add (i * 8 + k)) = some u) ∧ EOk z.1 ∧ Rd w z.2 z.1.b := by
      intro i hi
      obtain ⟨cs', h1, h2⟩ := hx i (by omega)
      rw [ce] at h1
      obtain ⟨_, hlen, hcell⟩ := World.cells?_some h1
      obtain ⟨c0, c1, c2, c3, c4, c5, c6, c7, rfl⟩ := list8 hlen
      obtain ⟨e, x, ok, rd, he⟩ := trod_entry h2
      refine ⟨(e, x), fun k u hk => ?_, ok, rd⟩
      rw [← he] at hk
      have hk8 : k < 8 := (List.getElem?_eq_some_iff.1 hk).1
      have e1 := hcell k (by omega)
      rw [Deep.add_add] at e1
      rw [e1]
      exact hk
    have : Inhabited (Ent × Value) := ⟨(zeroE, .slice none 0 0)⟩
    obtain ⟨z, hz'⟩ := Deep.choose_lt each
    have hget : ∀ i, i < len → ((List.range len).map z)[i]? = some (z i) := fun i hi => by simp [hi]
    refine ⟨(List.range len).map z, ⟨some y, cap, by simp, by simpa using hl, hm, (fun h => by cases h), fun hp => ?_⟩, fun q hq => ?_⟩
    · simp at hp
      obtain ⟨b, off, spot⟩ := y
      have hspot : spot = none := by
        have h1 := (hz' 0 hp).1 0 _ rfl
        simpa [Addr.add] using World.cell?_spot h1
      subst hspot
      refine ⟨b, off, rfl, fun j u hj => ?_⟩
      have hj8 : j < len * 8 := by
        have := (List.getElem?_eq_some_iff.1 hj).1
        rw [flatE_length] at this
        simpa using this
      have hlt : j % 8 < (ec (z (j / 8)).1 (z (j / 8)).2).length := by show _ < 8; omega
      have h1 := flatE_at (hget (j / 8) (by omega)) (j % 8) _ (List.getElem?_eq_getElem hlt)
      rw [show j / 8 * 8 + j % 8 = j by omega] at h1
      rw [h1] at hj
      have h2 := (hz' (j / 8) (by omega)).1 (j % 8) _ (List.getElem?_eq_getElem hlt)
      rw [show j / 8 * 8 + j % 8 = j by omega, Addr.add_lit] at h2
      rw [h2]
      exact hj
    · obtain ⟨i, hi, rfl⟩ := List.mem_map.1 hq
      have := hz' i (List.mem_range.1 hi)
      exact ⟨this.2.1, this.2.2, fun _ _ _ => rfl⟩


/-- A slice of integers that reads as l. -/
def RdI (w : World) (v : Value) (l : List Int) : Prop := (∀ x ∈ l, I64 x) ∧ ∃ (a : Option Addr) (cap : Nat), v = .slice a l.length cap ∧ l.length ≤ cap ∧ cap ≤ maxLen ∧ (0 < l.length → ∃ b off, a = some ⟨b, off, none⟩ ∧ ∀ j c, l[j]? = some c → w.cell? ⟨b, off + j, none⟩ = some (.int .i64 c))
set_option maxRecDepth 100000 in
theorem ints_of {H : Type} {enc : TypeId × Value → H} {w : World} {r : Reach} {b0 base : Nat} {held : Bool} {v : Value} {d : DataW H} {p : List MemPlace}
    (hv0 : Value.okWide Try.prog w r b0 52 v) (h : DataW.Trod enc Try.prog w base (fun _ => true) held 52 v d p) : ∃ l, RdI w v l := by
  obtain ⟨a, len, cap, rfl⟩ := okWide_slice Try.underlying52 hv0
  obtain ⟨fuel, hf⟩ := h
  rcases Deep.open_slice Try.underlying52 hf with ⟨hcs, _⟩ | ⟨y, l, c, m, n, D, Pl, hcs, _, hl, hm, hmm, _, hx⟩
  · simp [Value.cells] at hcs
    obtain ⟨rfl, rfl, rfl⟩ := hcs
    exact ⟨[], (fun x hx => by cases hx), none, 0, rfl, Nat.le_refl _, Nat.zero_le _, fun h => by simp at h⟩
  · simp [Value.cells] at hcs
    obtain ⟨rfl, rfl, rfl⟩ := hcs
    have hlm : len ≤ m := by rw [hmm]; split <;> omega
    have ce : Try.prog.cellsOf 3 = 1 := by kernel_rfl
    have each : ∀ i, i < len → ∃ z : Int, w.cell? (y.add i) = some (.int .i64 z) ∧ I64 z := by
      intro i hi
      obtain ⟨cs', h1, h2⟩ := hx i (by omega)
      rw [ce] at h1
      obtain ⟨_, hlen, hcell⟩ := World.cells?_some h1
      match cs', hlen with
      | [c0], _ =>
        obtain ⟨z, q0, _, wz⟩ := DataW.trod_int Try.underlying3 h2
        simp at q0
        subst q0
        have e1 := hcell 0 (by omega)
        rw [Deep.add_add] at e1
        exact ⟨z, by simpa using e1, wf_i64 wz⟩
    obtain ⟨z, hz'⟩ := Deep.choose_lt each
    refine ⟨(List.range len).map z, fun x hx => ?_, some y, cap, by simp, by simpa using hl, hm, fun hp => ?_⟩
    · obtain ⟨i, hi, rfl⟩ := List.mem_map.1 hx
      exact (hz' i (List.mem_range.1 hi)).2
    simp at hp
    obtain ⟨b, off, spot⟩ := y
    have hspot : spot = none := by simpa [Addr.add] using World.cell?_spot (hz' 0 hp).1
    subst hspot
    refine ⟨b, off, rfl, fun j c hj => ?_⟩
    have hlt : j < len := by have := (List.getElem?_eq_some_iff.1 hj).1; simpa using this
    simp [hlt] at hj
    subst hj
    have h2 := (hz' j hlt).1
    rw [Addr.add_lit] at h2
    exact h2
end Go.Proofs.Ytigfklcclfpcjaa
