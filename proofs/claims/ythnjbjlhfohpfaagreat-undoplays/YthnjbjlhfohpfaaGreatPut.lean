/-
  The contracts of the calls of layer 1 that put a form behind bytes: apart, putNum, Num, Int, Bytes, Bool.
  Stamps as pairs of numbers: how they stand, which are right; lists and numbers alone.
  Blocks that a call laid, and slices of stamps in memory: what a slice value reads as (RdS), a row of stamps that the call itself made (OwnS).
  The contract of layer 1's reading of one number: it answers the number whose form the bytes begin with, and how many bytes the form has; 0 and 0 where none stands.
  The contracts of layer 1's reader, by a state of two parts: the bytes that are left, and what is wrong.
  The contracts of the other calls of layer 1's reader: what is left, what is wrong, and how an Int, bytes, a count, a text and a word are taken; and of a reader of given bytes.
  The contracts of layer 1's reader for bytes, counts and words, and of a reader of given bytes.
  The contract of the reference's comparison of bytes: it answers whether the two lists of bytes are one, and writes nothing.
-/
import Derived.Test.YthnjbjlhfohpfaaGreatRows
import Derived.Test.YthnjbjlhfohpfaaGreatBase
import Derived.WalkSpells
import Derived.WalkKit
import Derived.Sort.Grow
import Derived.Deep.Draws
namespace Go.Proofs.YthnjbjlhfohpfaaGreat
section
set_option linter.unusedVariables false
open Go.RowKit

theorem byteTy : ByteTy Tryz.prog 36 5 := ⟨by kernel_rfl, by kernel_rfl⟩

end

section
section
set_option linter.unusedVariables false

/-- A stamp: its T, its W. -/
abbrev S := Int × Int
def I64 (x : Int) : Prop := -9223372036854775808 ≤ x ∧ x ≤ 9223372036854775807
def SOk (s : S) : Prop := I64 s.1 ∧ I64 s.2

def cmpI (x y : Int) : Int := if x < y then -1 else if y < x then 1 else 0
abbrev ltP (a b : S) : Prop := a.1 < b.1 ∨ a.1 = b.1 ∧ a.2 < b.2
def cmpS (a b : S) : Int := if ltP a b then -1 else if ltP b a then 1 else 0
abbrev rightP (s : S) : Prop := 1 ≤ s.1 ∧ s.1 ≤ 1099511627776 ∧ 0 ≤ s.2 ∧ s.2 ≤ 7

theorem cmpS_parts (a b : S) : cmpS a b = if cmpI a.1 b.1 = 0 then cmpI a.2 b.2 else cmpI a.1 b.1 := by
  have h1 : ltP a b ↔ (a.1 < b.1 ∨ a.1 = b.1 ∧ a.2 < b.2) := Iff.rfl
  have h2 : ltP b a ↔ (b.1 < a.1 ∨ b.1 = a.1 ∧ b.2 < a.2) := Iff.rfl
  unfold cmpS cmpI
  by_cases c1 : a.1 < b.1
  · simp [h1, c1]
  · by_cases c2 : b.1 < a.1
    · simp [h1, h2, c1, c2, show ¬ a.1 = b.1 by omega]
    · have : a.1 = b.1 := by omega
      simp [h1, h2, this]
theorem cmpI_range (x y : Int) : -1 ≤ cmpI x y ∧ cmpI x y ≤ 1 := by unfold cmpI; split <;> (try split) <;> omega
theorem cmpS_range (a b : S) : -1 ≤ cmpS a b ∧ cmpS a b ≤ 1 := by unfold cmpS; split <;> (try split) <;> omega
theorem cmpS_neg (a b : S) : cmpS a b < 0 ↔ ltP a b := by
  unfold cmpS
  split
  · simp_all
  · split <;> simp_all
theorem cmpS_zero (a b : S) : cmpS a b = 0 ↔ a = b := by
  obtain ⟨a1, a2⟩ := a
  obtain ⟨b1, b2⟩ := b
  have h1 : ltP (a1, a2) (b1, b2) ↔ (a1 < b1 ∨ a1 = b1 ∧ a2 < b2) := Iff.rfl
  have h2 : ltP (b1, b2) (a1, a2) ↔ (b1 < a1 ∨ b1 = a1 ∧ b2 < a2) := Iff.rfl
  unfold cmpS
  simp only [Prod.mk.injEq]
  by_cases c1 : ltP (a1, a2) (b1, b2)
  · rw [if_pos c1]; rw [h1] at c1; omega
  · rw [if_neg c1]
    by_cases c2 : ltP (b1, b2) (a1, a2)
    · rw [if_pos c2]; rw [h2] at c2; omega
    · rw [if_neg c2]; rw [h1] at c1; rw [h2] at c2; omega
theorem cmpS_turn (a b : S) : cmpS a b = -cmpS b a := by
  obtain ⟨a1, a2⟩ := a
  obtain ⟨b1, b2⟩ := b
  have h1 : ltP (a1, a2) (b1, b2) ↔ (a1 < b1 ∨ a1 = b1 ∧ a2 < b2) := Iff.rfl
  have h2 : ltP (b1, b2) (a1, a2) ↔ (b1 < a1 ∨ b1 = a1 ∧ b2 < a2) := Iff.rfl
  unfold cmpS
  by_cases c1 : ltP (a1, a2) (b1, b2)
  · have c2 : ¬ ltP (b1, b2) (a1, a2) := by rw [h1] at c1; rw [h2]; omega
    rw [if_pos c1, if_neg c2, if_pos c1]
  · by_cases c2 : ltP (b1, b2) (a1, a2)
    · rw [if_neg c1, if_pos c2, if_pos c2]; rfl
    · rw [if_neg c1, if_neg c2, if_neg c2, if_neg c1]; rfl
theorem ltP_trans {a b c : S} (h1 : ltP a b) (h2 : ltP b c) : ltP a c := by unfold ltP at *; omega
theorem ltP_irrefl (a : S) : ¬ ltP a a := by unfold ltP; omega
theorem ltP_total {a b : S} (h1 : ¬ ltP a b) (h2 : ¬ ltP b a) : a = b := by
  obtain ⟨a1, a2⟩ := a
  obtain ⟨b1, b2⟩ := b
  unfold ltP at *
  simp only at *
  simp only [Prod.mk.injEq]
  omega
end

section
set_option linter.unusedVariables false
open Go.RowKit

/-- Block b holds the cells vs, of element type e. -/
def Blk (w : World) (b : Nat) (e : TypeId) (vs : List Value) : Prop := w.heap[b]? = some (.cells vs.toArray e (0, 0))
theorem Blk.lt {w : World} {b : Nat} {e : TypeId} {vs : List Value} (h : Blk w b e vs) : b < w.heap.size := (Array.getElem?_eq_some_iff.1 h).1
theorem Blk.cell {w : World} {b : Nat} {e : TypeId} {vs : List Value} (h : Blk w b e vs) (i : Nat) (v : Value) (hi : vs[i]? = some v) : w.cell? ⟨b, i, none⟩ = some v := by
  unfold Blk at h
  simp [World.cell?, h, hi]
theorem Blk.frozen {w : World} {b : Nat} {e : TypeId} {vs : List Value} (h : Blk w b e vs) (i : Nat) : w.frozen? ⟨b, i, none⟩ = false := by
  unfold Blk at h
  simp [World.frozen?, h]
theorem Blk.block {w w' : World} {b : Nat} {e : TypeId} {vs : List Value} (h : Blk w b e vs) (hb : w'.heap[b]? = w.heap[b]?) : Blk w' b e vs := hb.trans h
theorem Blk.below {w w' : World} {b : Nat} {e : TypeId} {vs : List Value} (h : Blk w b e vs) (hb : Below w.heap.size w w') : Blk w' b e vs := h.block (hb.block b h.lt)
theorem blk_new (w : World) (c : List Value) (e : TypeId) : Blk (w.alloc (.cells c.toArray e)) w.heap.size e c := heap_alloc_new w _
theorem Blk.alloc {w : World} {b : Nat} {e : TypeId} {vs : List Value} (h : Blk w b e vs) (o : Obj) : Blk (w.alloc o) b e vs := h.below ((Below.refl _ _).alloc (Nat.le_refl _) _)

/-- A stamp's value, and its cells. -/
def sv (s : S) : Value := .agg #[.int .i64 s.1, .int .i64 s.2]
def sc (s : S) : List Value := [.int .i64 s.1, .int .i64 s.2]
def csS (l : List S) : List Value := l.flatMap sc

/-- Behind a call that only lays blocks and draws. -/
theorem grow_below {w w' : World} (h : ∃ q os', w' = Sort.grow (w.drewN q) os') : Below w.heap.size w w' := by
  obtain ⟨q, os, rfl⟩ := h
  exact ⟨rfl, rfl, rfl, by simp, fun k hk => Sort.heap_grow_old _ _ hk⟩

theorem ret_bool {X Y : Bool} (h : X = true ↔ Y = true) : Ending.returned (.bool X) = .returned (.bool Y) := by rw [Bool.eq_iff_iff.2 h]

/-- The slice value v reads as the stamps l in the world w. -/
def RdS (w : World) (v : Value) (l : List S) : Prop :=
  (∀ s ∈ l, SOk s) ∧ ∃ (a : Option Addr) (cap : Nat), v = .slice a l.length cap ∧ l.length ≤ cap ∧ cap ≤ maxLen ∧ (a = none → cap = 0) ∧
    (0 < l.length → ∃ b off, a = some ⟨b, off, none⟩ ∧ ∀ j, j < l.length → w.cell? ⟨b, off + j * 2, none⟩ = some (.int .i64 (l.getD j (0, 0)).1) ∧ w.cell? ⟨b, off + j * 2 + 1, none⟩ = some (.int .i64 (l.getD j (0, 0)).2))

theorem rdS_nil (w : World) : RdS w (.slice none 0 0) [] := ⟨(fun _ h => by cases h), none, 0, rfl, Nat.le_refl _, Nat.zero_le _, fun _ => rfl, fun h => by simp at h⟩
theorem RdS.ok {w : World} {v : Value} {l : List S} (h : RdS w v l) (j : Nat) (hj : j < l.length) : SOk (l.getD j (0, 0)) := h.1 _ (by
  rw [List.getD_eq_getElem?_getD, List.getElem?_eq_getElem hj]
  exact List.getElem_mem hj)
theorem RdS.len {w : World} {v : Value} {l : List S} (h : RdS w v l) : ∃ a cap, v = .slice a l.length cap := ⟨h.2.choose, h.2.choose_spec.choose, h.2.choose_spec.choose_spec.1⟩
theorem RdS.cap {w : World} {a : Option Addr} {n cap : Nat} {l : List S} (h : RdS w (.slice a n cap) l) : n = l.length ∧ n ≤ cap ∧ cap ≤ 9223372036854775807 := by
  obtain ⟨ho, a', cap', e, h1, h2, h3, h4⟩ := h
  obtain ⟨rfl, rfl, rfl⟩ : a = a' ∧ n = l.length ∧ cap = cap' := by simpa using e
  exact ⟨rfl, h1, by unfold maxLen at h2; omega⟩
theorem RdS.kept {w w' : World} {v : Value} {l : List S} {r : Option Nat} (h : RdS w v l) (hg : w.grownBy w' r) (hne : ∀ k, r = some k → v.ownBlock ≠ some k) : RdS w' v l := by
  obtain ⟨ho, a, cap, rfl, h1, h2, h3, h4⟩ := h
  refine ⟨ho, a, cap, rfl, h1, h2, h3, fun hp => ?_⟩
  obtain ⟨b, off, rfl, hc⟩ := h4 hp
  refine ⟨b, off, rfl, fun j hj => ⟨?_, ?_⟩⟩
  · exact hg.cell (hc j hj).1 fun e => hne b e.symm rfl
  · exact hg.cell (hc j hj).2 fun e => hne b e.symm rfl
theorem RdS.below {w w' : World} {v : Value} {l : List S} (h : RdS w v l) (hg : Below w.heap.size w w') : RdS w' v l := h.kept (below_grown hg) fun k e => by cases e
/-- The cells of one of them, behind whatever only makes memory. -/
theorem RdS.at {w w' : World} {a : Option Addr} {n cap : Nat} {l : List S} (h : RdS w (.slice a n cap) l) (hg : Below w.heap.size w w') (j : Nat) (hj : j < l.length) :
    ∃ b off, a = some ⟨b, off, none⟩ ∧ w'.cell? ⟨b, off + j * 2, none⟩ = some (.int .i64 (l.getD j (0, 0)).1) ∧ w'.cell? ⟨b, off + j * 2 + 1, none⟩ = some (.int .i64 (l.getD j (0, 0)).2) := by
  obtain ⟨ho, a', cap', e, h1, h2, h3, h4⟩ := h.below hg
  obtain ⟨rfl, _, _⟩ : a = a' ∧ n = l.length ∧ cap = cap' := by simpa using e
  obtain ⟨b, off, rfl, hc⟩ := h4 (by omega)
  exact ⟨b, off, rfl, hc j hj⟩
end
end

section
set_option linter.unusedVariables false
open Go.RowKit
end

section
section
set_option linter.unusedVariables false
open Go.RowKit

/-- Block b holds a reader: the bytes l are left, k is wrong (0: nothing). -/
structure Rdr (w : World) (b : Nat) (l : List Int) (k : Int) : Prop where
  left : ∃ v, w.cell? ⟨b, 0, none⟩ = some v ∧ Rd w v l
  wrong : w.cell? ⟨b, 1, none⟩ = some (.int .i64 k)
  f0 : w.frozen? ⟨b, 0, none⟩ = false
  f1 : w.frozen? ⟨b, 1, none⟩ = false
  two : ∀ o, 2 ≤ o → w.cell? ⟨b, o, none⟩ = none
  gone : k ≠ 0 → l = []

abbrev ptr (b : Nat) : Value := .pointer (some ⟨b, 0, none⟩)

theorem grown_setCell (w : World) (b o : Nat) (u : Value) : w.grownBy (w.setCell ⟨b, o, none⟩ u) (some b) :=
  ⟨rfl, rfl, rfl, by simp, fun k _ hne => Below.heap_setCell w _ _ k (fun e => hne (by rw [e]))⟩

/-- What is read stays so while a reader is written. -/
theorem Rd.past {w w' : World} {v : Value} {l m : List Int} {b : Nat} {k : Int} (h : Rd w v l) (hr : Rdr w b m k) (hg : w.grownBy w' (some b)) : Rd w' v l := by
  obtain ⟨ho, a, cap, rfl, h1, h2, h3, h4⟩ := h
  refine ⟨ho, a, cap, rfl, h1, h2, h3, fun hp => ?_⟩
  obtain ⟨c, off, rfl, hc⟩ := h4 hp
  refine ⟨c, off, rfl, fun j hj => hg.cell (hc j hj) fun e => ?_⟩
  obtain rfl : c = b := by simpa using e
  have hcj := hc j hj
  obtain ⟨u, hu, _, _, _, rfl, _⟩ := hr.left
  have hw := hr.wrong
  rcases Nat.lt_trichotomy (off + j) 1 with h | h | h
  · rw [show off + j = 0 by omega, hu] at hcj; cases hcj
  · rw [h, hw] at hcj; cases hcj
  · rw [hr.two _ (by omega)] at hcj; cases hcj

theorem Rdr.kept {w w' : World} {l : List Int} {b : Nat} {k : Int} (h : Rdr w b l k) (hg : w.grownBy w' none) : Rdr w' b l k := by
  obtain ⟨v, hv, hrd⟩ := h.left
  have hb : w'.heap[b]? = w.heap[b]? := hg.block b (World.block_lt_of_cell? w _ hv) (by simp)
  exact ⟨⟨v, (World.cell?_of_block hb).trans hv, hrd.kept0 hg⟩, (World.cell?_of_block hb).trans h.wrong, (World.frozen?_of_block hb).trans h.f0, (World.frozen?_of_block hb).trans h.f1, fun o ho => (World.cell?_of_block hb).trans (h.two o ho), h.gone⟩

theorem Rdr.lt {w : World} {l : List Int} {b : Nat} {k : Int} (h : Rdr w b l k) : b < w.heap.size := World.block_lt_of_cell? w _ h.wrong

/-- A store of other bytes. -/
theorem Rdr.setLeft {w : World} {l m : List Int} {b : Nat} {k : Int} {v : Value} (h : Rdr w b l k) (hv : Rd w v m) (hk : k ≠ 0 → m = []) : Rdr (w.setCell ⟨b, 0, none⟩ v) b m k := by
  obtain ⟨u, hu, _⟩ := h.left
  refine ⟨⟨v, World.cell?_setCell_same _ _ _ hu, hv.past h (grown_setCell w b 0 v)⟩, ?_, by simpa using h.f0, by simpa using h.f1, fun o ho => ?_, hk⟩
  · rw [World.cell?_setCell_other _ _ _ _ (by simp)]; exact h.wrong
  · rw [World.cell?_setCell_other _ _ _ _ (by simp <;> omega)]; exact h.two o ho

/-- A store of what is wrong. -/
theorem Rdr.setWrong {w : World} {b : Nat} {k q : Int} (h : Rdr w b [] k) : Rdr (w.setCell ⟨b, 1, none⟩ (.int .i64 q)) b [] q := by
  obtain ⟨u, hu, hr⟩ := h.left
  refine ⟨⟨u, ?_, hr.past h (grown_setCell w b 1 _)⟩, World.cell?_setCell_same _ _ _ h.wrong, by simpa using h.f0, by simpa using h.f1, fun o ho => ?_, fun _ => rfl⟩
  · rw [World.cell?_setCell_other _ _ _ _ (by simp)]; exact hu
  · rw [World.cell?_setCell_other _ _ _ _ (by simp <;> omega)]; exact h.two o ho

/-- What taking a number makes of a reader: the number, and the reader behind. -/
def rNum (l : List Int) (k : Int) : Nat × List Int × Int := match parse 0 l with
  | some (n, r) => (n, r, k)
  | none => (0, [], if k = 0 then 4 else k)

theorem numAt_none {l : List Int} (h : parse 0 l = none) : numAt l = (0, 0) := by unfold numAt; rw [h]
theorem numAt_some {l r : List Int} {n : Nat} (ho : Oct l) (h : parse 0 l = some (n, r)) : numAt l = (n, (form n).length) ∧ l = form n ++ r ∧ n < 18446744073709551616 ∧ l.drop (form n).length = r := by
  obtain ⟨e, hb, _⟩ := parse_some l 0 n r ho h
  refine ⟨?_, e, by simpa using hb, by rw [e]; simp⟩
  unfold numAt
  rw [h]
  have := congrArg List.length e
  simp only [List.length_append] at this
  simp only [Prod.mk.injEq, true_and]
  omega

end

section
set_option linter.unusedVariables false
open Go.RowKit

def doneK (l : List Int) (k : Int) : Int := if k = 0 ∧ 0 < l.length then 4 else k

set_option maxHeartbeats 400000 in
theorem rnum_lt (l : List Int) (k : Int) (ho : Oct l) : (rNum l k).1 < 18446744073709551616 := by
  unfold rNum
  cases hp : parse 0 l with
  | none => show 0 < _; omega
  | some q => exact (numAt_some ho hp).2.2.1

theorem half64 (n : Nat) (h : n < 18446744073709551616) : wrap64 ((n : Int) / 2) = ((n / 2 : Nat) : Int) := by
  unfold wrap64; omega
theorem odd64 (n : Nat) (h : n < 18446744073709551616) : bits .xor .i64 (-1) (wrap64 ((n : Int) / 2)) = -((n / 2 : Nat) : Int) - 1 := by
  rw [half64 n h]; exact not64 _ (by omega)

theorem Rdr.oct {w : World} {l : List Int} {b : Nat} {k : Int} (h : Rdr w b l k) : Oct l := by obtain ⟨_, _, hr⟩ := h.left; exact hr.oct

/-- What taking at most 'most' bytes makes of a reader. -/
def rBytes (l : List Int) (k most : Int) : List Int × List Int × Int :=
  if (rNum l k).2.1.length < (rNum l k).1 then ([], [], if (rNum l k).2.2 = 0 then 4 else (rNum l k).2.2)
  else if most < (rNum l k).1 then ([], [], if (rNum l k).2.2 = 0 then 3 else (rNum l k).2.2)
  else ((rNum l k).2.1.take (rNum l k).1, (rNum l k).2.1.drop (rNum l k).1, (rNum l k).2.2)

end

section
set_option linter.unusedVariables false
open Go.RowKit

theorem rNum_len (l : List Int) (k : Int) (ho : Oct l) : (rNum l k).2.1.length ≤ l.length := by
  unfold rNum
  cases hp : parse 0 l with
  | none => simp
  | some q =>
    have := congrArg List.length (numAt_some ho hp).2.1
    simp only [List.length_append] at this
    show q.2.length ≤ _
    omega

/-- What taking a word makes of a reader. -/
def rBool (l : List Int) (k : Int) : Bool × List Int × Int :=
  if 1 < (rNum l k).1 then (false, [], if (rNum l k).2.2 = 0 then 4 else (rNum l k).2.2) else (decide ((rNum l k).1 = 1), (rNum l k).2.1, (rNum l k).2.2)

/-- What taking a count of at most 'most' makes of a reader. -/
def rCount (l : List Int) (k most : Int) : Int × List Int × Int :=
  if most < (rNum l k).1 then (0, [], if (rNum l k).2.2 = 0 then 3 else (rNum l k).2.2) else ((rNum l k).1, (rNum l k).2.1, (rNum l k).2.2)

theorem rdr_new (w : World) (v : Value) (l : List Int) (t : TypeId) (h : Rd w v l) : Rdr (w.alloc (.cells #[v, .int .i64 0] t)) w.heap.size l 0 := by
  refine ⟨⟨v, by simp, h.kept0 (World.grownBy_alloc w _ none)⟩, by simp, by simp, by simp, fun o ho => ?_, fun h => absurd rfl h⟩
  rw [World.cell?_alloc_new]
  exact Array.getElem?_eq_none (by simpa using ho)

end
end

section
set_option linter.unusedVariables false
open Go.RowKit

theorem take_snoc_eq {a b : List Int} {k : Nat} (h : a.take k = b.take k) (ha : k < a.length) (hb : k < b.length) (e : a.getD k 0 = b.getD k 0) : a.take (k + 1) = b.take (k + 1) := by
  rw [List.take_succ_eq_append_getElem ha, List.take_succ_eq_append_getElem hb, h]
  congr 2
  simpa [ha, hb] using e

set_option maxHeartbeats 1000000 in
set_option maxRecDepth 20000 in
theorem same_any (v x : Value) (a b : List Int) (w : World) (hv : Rd w v a) (hx : Rd w x b) :
    Calls Tryz.prog 48 #[v, x] w fun e w' => e = .returned (.bool (decide (a = b))) ∧ Below w.heap.size w w' := by
  obtain ⟨hoa, av, cv, rfl, h1, h2, h3, h4⟩ := hv
  obtain ⟨hob, ax, cx, rfl, g1, g2, g3, g4⟩ := hx
  unfold maxLen at h2 g2
  by_cases hl : a.length = b.length
  · have hne : ((a.length : Int) != (b.length : Int)) = false := by simp [hl]
    have HL : Hid (a.length = b.length) := hl
    clear hl
    go_enter Tryz.func48, Tryz.ntmps48
    go_wp2
    go_loopw [5] (fun i wr => ∃ k : Nat, k ≤ a.length ∧ i = .int .i64 k ∧ Hid (a.take k = b.take k) ∧ Below w.heap.size w wr) (fun i _ => a.length - (intOf i).toNat)
    case atStart => exact ⟨0, Nat.zero_le _, rfl, rfl, Below.refl _ _⟩
    case round =>
      obtain ⟨k, hk, rfl, ht, hb⟩ := hrel
      by_cases hlt : k < a.length
      · obtain ⟨ba, oa, rfl, hca⟩ := h4 (by omega)
        obtain ⟨bx, ox, rfl, hcx⟩ := g4 (by have := HL.out; omega)
        have ca := (hb.cell (World.block_lt_of_cell? w _ (hca k hlt))).trans (hca k hlt)
        have cx := (hb.cell (World.block_lt_of_cell? w _ (hcx k (by have := HL.out; omega)))).trans (hcx k (by have := HL.out; omega))
        have hlt' : k < b.length := by have := HL.out; omega
        have HB : Hid (Below w.heap.size w wr) := hb
        clear hca hcx h4 g4 hb hoa hob
        by_cases heq : a.getD k 0 = b.getD k 0
        · have HS : Hid (a.take (k + 1) = b.take (k + 1)) := take_snoc_eq ht.out hlt hlt' heq
          rw [← heq] at cx
          generalize a.getD k 0 = p at ca cx
          clear heq
          go_wp2
          go_region
          all_goals go_wp2
          all_goals
            go_roundw
            case rel => exact ⟨k + 1, by omega, by go_num, HS, by first | exact HB.out | exact HB.out.drew | exact HB.out.drew.drew⟩
            case measure => simp [intOf]; omega
        · have HS : Hid (¬ a = b) := fun e => heq (by rw [e])
          have hpq : (a.getD k 0 != b.getD k 0) = true := by simpa using heq
          generalize a.getD k 0 = p at ca hpq
          generalize b.getD k 0 = q at cx hpq
          clear heq
          go_wp2
          go_region
          all_goals go_wp2
          all_goals
            go_ret
            refine ⟨?_, by first | exact HB.out | exact HB.out.drew | exact HB.out.drew.drew⟩
            rw [decide_eq_false HS.out]
            rfl
      · have HS : Hid (a = b) := by
          have := ht.out
          rwa [List.take_of_length_le (by omega), List.take_of_length_le (by have := HL.out; omega)] at this
        have HB : Hid (Below w.heap.size w wr) := hb
        clear h4 g4 hb hoa hob
        go_wp2
        go_ret
        refine ⟨?_, HB.out⟩
        rw [decide_eq_true HS.out]
        rfl
  · have hne : ((a.length : Int) != (b.length : Int)) = true := by simp; omega
    go_enter Tryz.func48, Tryz.ntmps48
    go_wp2
    go_ret
    refine ⟨?_, Below.refl _ _⟩
    rw [decide_eq_false (fun h => hl (by rw [h]))]
    rfl
end
end Go.Proofs.YthnjbjlhfohpfaaGreat
