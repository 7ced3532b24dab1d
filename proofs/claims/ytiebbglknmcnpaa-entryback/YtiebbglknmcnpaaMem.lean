/-
  Stamps as pairs of numbers: how they stand, which are right; lists and numbers alone.
  Blocks that a call laid, and slices of stamps in memory: what a slice value reads as (RdS), a row of stamps that the call itself made (OwnS).
-/
import Derived.WalkKit
import Derived.Test.YtiebbglknmcnpaaPut
import Derived.Sort.Grow
import Derived.Deep.Draws
namespace Go.Proofs.Ytiebbglknmcnpaa
section
set_option linter.unusedVariables false

/-- A stamp: its T, its W. -/
abbrev S := Int × Int
def I64 (x : Int) : Prop := -9223372036854775808 ≤ x ∧ x ≤ 9223372036854775807
def SOk (s : S) : Prop := I64 s.1 ∧ I64 s.2

def cmpI (x y : Int) : Int := if x < y then -1 else if y < x then 1 else 0
abbrev ltP (a b : S) : Prop := a.1 < b.1 ∨ a.1 = b.1 ∧ a.2 < b.2
def cmpS (a b : S) : Int := if ltP a b then -1 else if ltP b a then 1 else 0
abbrev rightP (s : S) : Prop := 1 ≤ s.1 ∧ s.1 ≤ 1099511627776 ∧ 0 ≤ s.2 ∧ s.2 ≤ 7

theorem cmpS_parts (a b : S) : cmpS a b = if cmpI a.1 b.1 = 0 then cmpI a.2 b.2 else cmpI a.1 b.1 := by
  have h1 : ltP a b ↔ (a.1 < b.1 ∨ a.1 = b.1 ∧ a.2 < b.2) := Iff.rfl
  have h2 : ltP b a ↔ (b.1 < a.1 ∨ b.1 = a.1 ∧ b.2 < a.2) := Iff.rfl
  unfold cmpS cmpI
  by_cases c1 : a.1 < b.1
  · simp [h1, c1]
  · by_cases c2 : b.1 < a.1
    · simp [h1, h2, c1, c2, show ¬ a.1 = b.1 by omega]
    · have : a.1 = b.1 := by omega
      simp [h1, h2, this]
theorem cmpI_range (x y : Int) : -1 ≤ cmpI x y ∧ cmpI x y ≤ 1 := by unfold cmpI; split <;> (try split) <;> omega
theorem cmpS_range (a b : S) : -1 ≤ cmpS a b ∧ cmpS a b ≤ 1 := by unfold cmpS; split <;> (try split) <;> omega
theorem cmpS_neg (a b : S) : cmpS a b < 0 ↔ ltP a b := by
  unfold cmpS
  split
  · simp_all
  · split <;> simp_all
theorem cmpS_zero (a b : S) : cmpS a b = 0 ↔ a = b := by
  obtain ⟨a1, a2⟩ := a
  obtain ⟨b1, b2⟩ := b
  have h1 : ltP (a1, a2) (b1, b2) ↔ (a1 < b1 ∨ a1 = b1 ∧ a2 < b2) := Iff.rfl
  have h2 : ltP (b1, b2) (a1, a2) ↔ (b1 < a1 ∨ b1 = a1 ∧ b2 < a2) := Iff.rfl
  unfold cmpS
  simp only [Prod.mk.injEq]
  by_cases c1 : ltP (a1, a2) (b1, b2)
  · rw [if_pos c1]; rw [h1] at c1; omega
  · rw [if_neg c1]
    by_cases c2 : ltP (b1, b2) (a1, a2)
    · rw [if_pos c2]; rw [h2] at c2; omega
    · rw [if_neg c2]; rw [h1] at c1; rw [h2] at c2; omega
theorem cmpS_turn (a b : S) : cmpS a b = -cmpS b a := by
  obtain ⟨a1, a2⟩ := a
  obtain ⟨b1, b2⟩ := b
  have h1 : ltP (a1, a2) (b1, b2) ↔ (a1 < b1 ∨ a1 = b1 ∧ a2 < b2) := Iff.rfl
  have h2 : ltP (b1, b2) (a1, a2) ↔ (b1 < a1 ∨ b1 = a1 ∧ b2 < a2) := Iff.rfl
  unfold cmpS
  by_cases c1 : ltP (a1, a2) (b1, b2)
  · have c2 : ¬ ltP (b1, b2) (a1, a2) := by rw [h1] at c1; rw [h2]; omega
    rw [if_pos c1, if_neg c2, if_pos c1]
  · by_cases c2 : ltP (b1, b2) (a1, a2)
    · rw [if_neg c1, if_pos c2, if_pos c2]; rfl
    · rw [if_neg c1, if_neg c2, if_neg c2, if_neg c1]; rfl
theorem ltP_trans {a b c : S} (h1 : ltP a b) (h2 : ltP b c) : ltP a c := by unfold ltP at *; omega
theorem ltP_irrefl (a : S) : ¬ ltP a a := by unfold ltP; omega
theorem ltP_total {a b : S} (h1 : ¬ ltP a b) (h2 : ¬ ltP b a) : a = b := by
  obtain ⟨a1, a2⟩ := a
  obtain ⟨b1, b2⟩ := b
  unfold ltP at *
  simp only at *
  simp only [Prod.mk.injEq]
  omega
end

section
set_option linter.unusedVariables false
open Go.RowKit

/-- Block b holds the cells vs, of element type e. -/
def Blk (w : World) (b : Nat) (e : TypeId) (vs : List Value) : Prop := w.heap[b]? = some (.cells vs.toArray e (0, 0))
theorem Blk.lt {w : World} {b : Nat} {e : TypeId} {vs : List Value} (h : Blk w b e vs) : b < w.heap.size := (Array.getElem?_eq_some_iff.1 h).1
theorem Blk.cell {w : World} {b : Nat} {e : TypeId} {vs : List Value} (h : Blk w b e vs) (i : Nat) (v : Value) (hi : vs[i]? = some v) : w.cell? ⟨b, i, none⟩ = some v := by
  unfold Blk at h
  simp [World.cell?, h, hi]
theorem Blk.frozen {w : World} {b : Nat} {e : TypeId} {vs : List Value} (h : Blk w b e vs) (i : Nat) : w.frozen? ⟨b, i, none⟩ = false := by
  unfold Blk at h
  simp [World.frozen?, h]
theorem Blk.block {w w' : World} {b : Nat} {e : TypeId} {vs : List Value} (h : Blk w b e vs) (hb : w'.heap[b]? = w.heap[b]?) : Blk w' b e vs := hb.trans h
theorem Blk.below {w w' : World} {b : Nat} {e : TypeId} {vs : List Value} (h : Blk w b e vs) (hb : Below w.heap.size w w') : Blk w' b e vs := h.block (hb.block b h.lt)
theorem blk_new (w : World) (c : List Value) (e : TypeId) : Blk (w.alloc (.cells c.toArray e)) w.heap.size e c := heap_alloc_new w _
theorem Blk.alloc {w : World} {b : Nat} {e : TypeId} {vs : List Value} (h : Blk w b e vs) (o : Obj) : Blk (w.alloc o) b e vs := h.below ((Below.refl _ _).alloc (Nat.le_refl _) _)

/-- A stamp's value, and its cells. -/
def sv (s : S) : Value := .agg #[.int .i64 s.1, .int .i64 s.2]
def sc (s : S) : List Value := [.int .i64 s.1, .int .i64 s.2]
def csS (l : List S) : List Value := l.flatMap sc

/-- Behind a call that only lays blocks and draws. -/
theorem grow_below {w w' : World} (h : ∃ q os', w' = Sort.grow (w.drewN q) os') : Below w.heap.size w w' := by
  obtain ⟨q, os, rfl⟩ := h
  exact ⟨rfl, rfl, rfl, by simp, fun k hk => Sort.heap_grow_old _ _ hk⟩

theorem ret_bool {X Y : Bool} (h : X = true ↔ Y = true) : Ending.returned (.bool X) = .returned (.bool Y) := by rw [Bool.eq_iff_iff.2 h]

/-- The slice value v reads as the stamps l in the world w. -/
def RdS (w : World) (v : Value) (l : List S) : Prop :=
  (∀ s ∈ l, SOk s) ∧ ∃ (a : Option Addr) (cap : Nat), v = .slice a l.length cap ∧ l.length ≤ cap ∧ cap ≤ maxLen ∧ (a = none → cap = 0) ∧
    (0 < l.length → ∃ b off, a = some ⟨b, off, none⟩ ∧ ∀ j, j < l.length → w.cell? ⟨b, off + j * 2, none⟩ = some (.int .i64 (l.getD j (0, 0)).1) ∧ w.cell? ⟨b, off + j * 2 + 1, none⟩ = some (.int .i64 (l.getD j (0, 0)).2))

theorem rdS_nil (w : World) : RdS w (.slice none 0 0) [] := ⟨(fun _ h => by cases h), none, 0, rfl, Nat.le_refl _, Nat.zero_le _, fun _ => rfl, fun h => by simp at h⟩
theorem RdS.ok {w : World} {v : Value} {l : List S} (h : RdS w v l) (j : Nat) (hj : j < l.length) : SOk (l.getD j (0, 0)) := h.1 _ (by
  rw [List.getD_eq_getElem?_getD, List.getElem?_eq_getElem hj]
  exact List.getElem_mem hj)
theorem RdS.len {w : World} {v : Value} {l : List S} (h : RdS w v l) : ∃ a cap, v = .slice a l.length cap := ⟨h.2.choose, h.2.choose_spec.choose, h.2.choose_spec.choose_spec.1⟩
theorem RdS.cap {w : World} {a : Option Addr} {n cap : Nat} {l : List S} (h : RdS w (.slice a n cap) l) : n = l.length ∧ n ≤ cap ∧ cap ≤ 9223372036854775807 := by
  obtain ⟨ho, a', cap', e, h1, h2, h3, h4⟩ := h
  obtain ⟨rfl, rfl, rfl⟩ : a = a' ∧ n = l.length ∧ cap = cap' := by simpa using e
  exact ⟨rfl, h1, by unfold maxLen at h2; omega⟩
theorem RdS.kept {w w' : World} {v : Value} {l : List S} {r : Option Nat} (h : RdS w v l) (hg : w.grownBy w' r) (hne : ∀ k, r = some k → v.ownBlock ≠ some k) : RdS w' v l := by
  obtain ⟨ho, a, cap, rfl, h1, h2, h3, h4⟩ := h
  refine ⟨ho, a, cap, rfl, h1, h2, h3, fun hp => ?_⟩
  obtain ⟨b, off, rfl, hc⟩ := h4 hp
  refine ⟨b, off, rfl, fun j hj => ⟨?_, ?_⟩⟩
  · exact hg.cell (hc j hj).1 fun e => hne b e.symm rfl
  · exact hg.cell (hc j hj).2 fun e => hne b e.symm rfl
theorem RdS.below {w w' : World} {v : Value} {l : List S} (h : RdS w v l) (hg : Below w.heap.size w w') : RdS w' v l := h.kept (below_grown hg) fun k e => by cases e
/-- The cells of one of them, behind whatever only makes memory. -/
theorem RdS.at {w w' : World} {a : Option Addr} {n cap : Nat} {l : List S} (h : RdS w (.slice a n cap) l) (hg : Below w.heap.size w w') (j : Nat) (hj : j < l.length) :
    ∃ b off, a = some ⟨b, off, none⟩ ∧ w'.cell? ⟨b, off + j * 2, none⟩ = some (.int .i64 (l.getD j (0, 0)).1) ∧ w'.cell? ⟨b, off + j * 2 + 1, none⟩ = some (.int .i64 (l.getD j (0, 0)).2) := by
  obtain ⟨ho, a', cap', e, h1, h2, h3, h4⟩ := h.below hg
  obtain ⟨rfl, _, _⟩ : a = a' ∧ n = l.length ∧ cap = cap' := by simpa using e
  obtain ⟨b, off, rfl, hc⟩ := h4 (by omega)
  exact ⟨b, off, rfl, hc j hj⟩
end
end Go.Proofs.Ytiebbglknmcnpaa
