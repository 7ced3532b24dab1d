/-
  Which blocks a call writes (Turn), slices of uint64 in memory (RdU), over any program.
-/
import Derived.Test.YtcacioogklgahaaOrc
import Derived.Test.YtcacioogklgahaaCopy
import Derived.Test.YtcacioogklgahaaMaps
namespace Go.Proofs.Ytcacioogklgahaa
set_option linter.unusedVariables false
set_option synthInstance.maxSize 20000
open Go.RowKit

/-- From w to w' no block was written but those of ft, and new ones. -/
structure Turn (ft : List Nat) (w w' : World) : Prop where
  os : w'.os = w.os
  tape : w'.tape = w.tape
  output : w'.output = w.output
  size : w.heap.size ≤ w'.heap.size
  block : ∀ k, k < w.heap.size → k ∉ ft → w'.heap[k]? = w.heap[k]?

theorem Turn.refl (ft : List Nat) (w : World) : Turn ft w w := ⟨rfl, rfl, rfl, Nat.le_refl _, fun _ _ _ => rfl⟩
/-- ft1 are blocks of ft, or new ones. -/
def Of (ft : List Nat) (w : World) (ft1 : List Nat) : Prop := ∀ k ∈ ft1, k ∈ ft ∨ w.heap.size ≤ k
theorem Of.refl (ft : List Nat) (w : World) : Of ft w ft := fun k h => .inl h
theorem Of.trans {ft ft1 ft2 : List Nat} {w w1 : World} (h : Of ft w ft1) (h1 : Of ft1 w1 ft2) (hs : w.heap.size ≤ w1.heap.size) : Of ft w ft2 := fun k hk => by
  rcases h1 k hk with h2 | h2
  · exact h k h2
  · exact .inr (Nat.le_trans hs h2)
theorem Turn.trans {ft ft1 : List Nat} {w w1 w2 : World} (h : Turn ft w w1) (h1 : Turn ft1 w1 w2) (hf : Of ft w ft1) : Turn ft w w2 :=
  ⟨h1.os.trans h.os, h1.tape.trans h.tape, h1.output.trans h.output, Nat.le_trans h.size h1.size, fun k hk hn => by
    rw [h1.block k (Nat.lt_of_lt_of_le hk h.size) (fun e => by
      rcases hf k e with r | r
      · exact hn r
      · omega), h.block k hk hn]⟩
theorem Turn.same {ft : List Nat} {w w1 w2 : World} (h : Turn ft w w1) (h1 : Turn ft w1 w2) : Turn ft w w2 := h.trans h1 (Of.refl _ _)
theorem Turn.of_below {ft : List Nat} {w w' : World} (h : Below w.heap.size w w') : Turn ft w w' := ⟨h.os, h.tape, h.output, h.size, fun k hk _ => h.block k hk⟩
theorem Turn.of_grown {ft : List Nat} {w w' : World} {b : Nat} (h : w.grownBy w' (some b)) (hb : b ∈ ft) : Turn ft w w' :=
  ⟨h.os, h.tape, h.output, h.size, fun k hk hn => h.block k hk (fun e => hn (by cases e; exact hb))⟩
theorem Turn.of_new {ft : List Nat} {w w' : World} {b : Nat} (h : w.grownBy w' (some b)) (hb : w.heap.size ≤ b) : Turn ft w w' :=
  ⟨h.os, h.tape, h.output, h.size, fun k hk hn => h.block k hk (fun e => by cases e; omega)⟩
theorem Turn.alloc {ft : List Nat} {w w' : World} (h : Turn ft w w') (o : Obj) : Turn ft w (w'.alloc o) :=
  h.same (Turn.of_below ((Below.refl _ _).alloc (Nat.le_refl _) o))
theorem Turn.drew {ft : List Nat} {w w' : World} (h : Turn ft w w') : Turn ft w w'.drew := ⟨h.os, h.tape, h.output, h.size, h.block⟩
theorem Turn.below {ft : List Nat} {w w' : World} (h : Turn ft w w') {B : Nat} (hB : B ≤ w.heap.size) (hf : ∀ k ∈ ft, B ≤ k) : Below B w w' :=
  ⟨h.os, h.tape, h.output, h.size, fun k hk => h.block k (by omega) (fun e => by have := hf k e; omega)⟩
theorem Turn.nil_below {w w' : World} (h : Turn [] w w') : Below w.heap.size w w' := h.below (Nat.le_refl _) (fun k h => by cases h)
theorem Turn.widen {ft ft' : List Nat} {w w' : World} (h : Turn ft w w') (hf : ∀ k ∈ ft, k ∈ ft') : Turn ft' w w' := ⟨h.os, h.tape, h.output, h.size, fun k hk hn => h.block k hk (fun e => hn (hf k e))⟩

/-- A value's block lies outside. -/
def Out (ft : List Nat) (v : Value) : Prop := ∀ k, v.ownBlock = some k → k ∉ ft
theorem Out.of {ft ft1 : List Nat} {w : World} {v : Value} (h : Out ft v) (hf : Of ft w ft1) (hl : ∀ k, v.ownBlock = some k → k < w.heap.size) : Out ft1 v := fun k hk e => by
  rcases hf k e with r | r
  · exact h k hk r
  · have := hl k hk; omega

theorem Rd.turn {ft : List Nat} {w w' : World} {v : Value} {l : List Int} (h : Rd w v l) (ht : Turn ft w w') (ho : Out ft v) : Rd w' v l := by
  obtain ⟨ho', a, cap, rfl, h1, h2, h3, h4⟩ := h
  refine ⟨ho', a, cap, rfl, h1, h2, h3, fun hp => ?_⟩
  obtain ⟨b, off, rfl, hc⟩ := h4 hp
  refine ⟨b, off, rfl, fun j hj => ?_⟩
  rw [World.cell?_of_block (ht.block b (World.block_lt_of_cell? w _ (hc j hj)) (ho b rfl))]
  exact hc j hj

/-- The slice value v reads as the numbers l (uint64). -/
def RdU (w : World) (v : Value) (l : List Int) : Prop :=
  (∀ x ∈ l, U64 x) ∧ ∃ (a : Option Addr) (cap : Nat), v = .slice a l.length cap ∧ l.length ≤ cap ∧ cap ≤ maxLen ∧ (a = none → cap = 0) ∧
    (0 < l.length → ∃ b off, a = some ⟨b, off, none⟩ ∧ ∀ j, j < l.length → w.cell? ⟨b, off + j, none⟩ = some (.int .u64 (l.getD j 0)))

theorem rdU_nil (w : World) : RdU w (.slice none 0 0) [] := ⟨(fun _ h => by cases h), none, 0, rfl, Nat.le_refl _, Nat.zero_le _, fun _ => rfl, fun h => by simp at h⟩
theorem RdU.turn {ft : List Nat} {w w' : World} {v : Value} {l : List Int} (h : RdU w v l) (ht : Turn ft w w') (ho : Out ft v) : RdU w' v l := by
  obtain ⟨ho', a, cap, rfl, h1, h2, h3, h4⟩ := h
  refine ⟨ho', a, cap, rfl, h1, h2, h3, fun hp => ?_⟩
  obtain ⟨b, off, rfl, hc⟩ := h4 hp
  refine ⟨b, off, rfl, fun j hj => ?_⟩
  rw [World.cell?_of_block (ht.block b (World.block_lt_of_cell? w _ (hc j hj)) (ho b rfl))]
  exact hc j hj
/-- Enough that its own block stands. -/
theorem RdU.block {w w' : World} {v : Value} {l : List Int} (h : RdU w v l) (hb : ∀ k, v.ownBlock = some k → k < w.heap.size → w'.heap[k]? = w.heap[k]?) : RdU w' v l := by
  obtain ⟨ho', a, cap, rfl, h1, h2, h3, h4⟩ := h
  refine ⟨ho', a, cap, rfl, h1, h2, h3, fun hp => ?_⟩
  obtain ⟨b, off, rfl, hc⟩ := h4 hp
  refine ⟨b, off, rfl, fun j hj => ?_⟩
  rw [World.cell?_of_block (hb b rfl (World.block_lt_of_cell? w _ (hc j hj)))]
  exact hc j hj
/-- v[1:]. -/
theorem rdU_tail {w : World} {a : Option Addr} {cap : Nat} {x : Int} {l : List Int} (h : RdU w (.slice a (l.length + 1) cap) (x :: l)) (hne : ¬ cap = 1) : RdU w (.slice (Option.map (fun y => y.add 1) a) l.length (cap - 1)) l := by
  obtain ⟨ho, a', cap', e, h1, h2, h3, h4⟩ := h
  obtain ⟨rfl, rfl⟩ : a = a' ∧ cap = cap' := by simpa using e
  simp at h1
  refine ⟨fun y hy => ho y (List.mem_cons_of_mem _ hy), _, cap - 1, rfl, by omega, by omega, fun hn => ?_, fun hp => ?_⟩
  · have := h3 (by simpa using hn)
    omega
  · obtain ⟨b, off, rfl, hc⟩ := h4 (by simp)
    refine ⟨b, off + 1, by rw [Option.map_some, Addr.add_lit], fun j hj => ?_⟩
    rw [Nat.add_assoc, Nat.add_comm 1 j, hc (j + 1) (by simpa using hj)]
    simp
theorem rdU_tail0 {w : World} {a : Option Addr} {x : Int} {l : List Int} (h : RdU w (.slice a (l.length + 1) 1) (x :: l)) : RdU w (.slice a l.length 0) l := by
  obtain ⟨ho, a', cap', e, h1, h2, h3, h4⟩ := h
  obtain ⟨rfl, rfl⟩ : a = a' ∧ 1 = cap' := by simpa using e
  simp at h1
  subst h1
  exact ⟨(fun _ h => by cases h), a, 0, rfl, Nat.le_refl _, Nat.zero_le _, fun _ => rfl, fun h => by simp at h⟩
end Go.Proofs.Ytcacioogklgahaa
