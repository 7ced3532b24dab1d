/-
  A row of stamps as a block of cells: written, cleared; lists without neighbours that are alike.
-/
import Derived.Test.YtmifionpagpnfaaOwnS
import Derived.Test.YtmifionpagpnfaaClock
import Derived.Test.YtmifionpagpnfaaMax
import Derived.Laws.IdiomCopy
import Derived.Lib.SliceRun
namespace Go.Proofs.Ytmifionpagpnfaa
set_option linter.unusedVariables false
open Go.RowKit

theorem csS_set : ∀ (l : List S) (k : Nat) (s : S) (t : List Value), k < l.length → ((csS l ++ t).set (k * 2) (.int .i64 s.1)).set (k * 2 + 1) (.int .i64 s.2) = csS (l.set k s) ++ t
  | [], k, s, t, h => by simp at h
  | x :: l, 0, s, t, _ => by simp [csS, sc]
  | x :: l, k + 1, s, t, h => by
    have := csS_set l k s t (by simpa using h)
    simp only [csS, List.flatMap_cons, sc, List.set_cons_succ] at this ⊢
    rw [show (k + 1) * 2 = k * 2 + 2 by omega]
    simpa using this

theorem own_blk {B : Nat} {w : World} {v : Value} {l : List S} (h : OwnS B w v l) (hp : 0 < l.length) :
    ∃ g cap t, v = .slice (some ⟨g, 0, none⟩) l.length cap ∧ B ≤ g ∧ Blk w g 23 (csS l ++ t) ∧ l.length ≤ cap ∧ cap ≤ maxLen ∧ (csS l ++ t).length = cap * 2 := by
  obtain ⟨ho, h1, h2⟩ := h
  rcases h2 with ⟨rfl, hn⟩ | ⟨g, cap, cur, rfl, hb, hg, hn, hc, hs, ht⟩
  · omega
  · have e : csS l ++ cur.toList.drop (l.length * 2) = cur.toList := by rw [← ht]; exact List.take_append_drop _ _
    refine ⟨g, cap, cur.toList.drop (l.length * 2), rfl, hb, ?_, hn, hc, ?_⟩
    · unfold Blk
      rw [e]
      simpa using hg
    · rw [e]
      simpa using hs
theorem blk_own {B : Nat} {w : World} {l : List S} {g cap : Nat} {vs : List Value} (ho : ∀ s ∈ l, SOk s) (hB : B ≤ g) (hb : Blk w g 23 vs) (ht : vs.take (l.length * 2) = csS l) (h1 : l.length ≤ cap) (h2 : cap ≤ maxLen) (h3 : vs.length = cap * 2) : OwnS B w (.slice (some ⟨g, 0, none⟩) l.length cap) l :=
  ⟨ho, csS_length l, .inr ⟨g, cap, vs.toArray, rfl, hB, hb, h1, h2, by simpa using h3, by simpa using ht⟩⟩

theorem row_at {l : List S} {t : List Value} {w : World} {g : Nat} (h : Blk w g 23 (csS l ++ t)) (j : Nat) (hj : j < l.length) : w.cell? ⟨g, j * 2, none⟩ = some (.int .i64 (l.getD j (0, 0)).1) ∧ w.cell? ⟨g, j * 2 + 1, none⟩ = some (.int .i64 (l.getD j (0, 0)).2) := by
  have hk := csS_at l j hj
  have hl := csS_length l
  exact ⟨h.cell _ _ (by rw [List.getElem?_append_left (by omega)]; exact hk.1), h.cell _ _ (by rw [List.getElem?_append_left (by omega)]; exact hk.2)⟩

/-- A run of stores into a block. -/
theorem Blk.sets {b : Nat} {e : TypeId} : ∀ (us : List Value) (o : Nat) (w : World) (vs : List Value), Blk w b e vs → o + us.length ≤ vs.length → ∃ vs', Blk (w.setCells b o us) b e vs' ∧ vs'.length = vs.length ∧ vs'.take o = vs.take o ∧ w.grownBy (w.setCells b o us) (some b)
  | [], o, w, vs, h, _ => ⟨vs, h, rfl, rfl, grown_refl _ _⟩
  | u :: us, o, w, vs, h, hl => by
    simp only [List.length_cons] at hl
    obtain ⟨vs', h1, h2, h3, h4⟩ := Blk.sets us (o + 1) (w.setCell ⟨b, o, none⟩ u) (vs.set o u) (h.set o u) (by simp; omega)
    refine ⟨vs', h1, by simpa using h2, ?_, grown_trans (grown_setCell w b o u) h4 (fun k hk => .inl hk)⟩
    have e1 : vs'.take o = (vs'.take (o + 1)).take o := by rw [List.take_take, Nat.min_eq_left (by omega)]
    rw [e1, h3, List.take_take, Nat.min_eq_left (by omega), List.take_set_of_le (Nat.le_refl _)]

/-- 'clear(s)' of some of a row. -/
theorem run_clear {w : World} (g off n c : Nat) (vs : List Value) (hb : Blk w g 23 vs) (hn : 0 < n) (hl : off + n * 2 ≤ vs.length) :
    ∃ w' vs', (∀ ty, (Builtin.clear_ #[24] ty #[.slice (some ⟨g, off, none⟩) n c]).run Try.prog w = .ok (.tuple #[]) w') ∧ Blk w' g 23 vs' ∧ vs'.length = vs.length ∧ vs'.take off = vs.take off ∧ w.grownBy w' (some g) := by
  have hz : (Builtin.zeroCells (Value.agg #[.int .i64 0, .int .i64 0]).cells n).toList.length = n * 2 := by simp [Builtin.zeroCells, Value.cells]
  have h1 : ∀ v ∈ (Builtin.zeroCells (Value.agg #[.int .i64 0, .int .i64 0]).cells n).toList, v.oneCell' = true := fun v hv => by
    simp [Builtin.zeroCells, Value.cells] at hv
    obtain ⟨i, hi, rfl⟩ := hv
    rcases Nat.mod_two_eq_zero_or_one i with r | r <;> rw [r] <;> rfl
  have hcell : ∀ j, j < n * 2 → (w.cell? ⟨g, off + j, none⟩).isSome = true := fun j hj => by
    rw [hb.cell (off + j) _ (List.getElem?_eq_getElem (by omega))]
    rfl
  have hst := run_storeCells_cells (P := Try.prog) g off _ 0 w (fun j hj => by rw [hz] at hj; simpa using hcell j hj) (fun j hj => by simpa using hb.frozen (off + j)) h1
  simp only [Nat.add_zero] at hst
  obtain ⟨vs', q1, q2, q3, q4⟩ := Blk.sets _ off w vs hb (by rw [hz]; exact hl)
  obtain ⟨m, rfl⟩ : ∃ m, n = m + 1 := ⟨n - 1, by omega⟩
  refine ⟨_, vs', fun ty => ?_, q1, q2, q3, q4⟩
  simp [Builtin.clear_, run_underlying Try.underlying24, hst]

/-- Neighbours that are alike stand once. -/
def dd (p : S) : List S → List S
  | [] => []
  | x :: r => if x = p then dd p r else x :: dd x r
def dedup : List S → List S
  | [] => []
  | x :: r => x :: dd x r

theorem pair_cases (x y : S) : x = y ∨ (x.1 == y.1) = false ∨ (x.1 = y.1 ∧ (x.2 == y.2) = false) := by
  obtain ⟨a, b⟩ := x
  obtain ⟨c, d⟩ := y
  simp only [Prod.mk.injEq, beq_eq_false_iff_ne, ne_eq]
  omega

theorem take_more {l : List S} {k : Nat} (h : k < l.length) : l.take (k + 1) = l.take k ++ [l.getD k (0, 0)] := by
  rw [List.take_add_one, List.getD_eq_getElem?_getD, List.getElem?_eq_getElem h]
  rfl
theorem dd_same {p : S} {r : List S} : dd p (p :: r) = dd p r := by rw [dd, if_pos rfl]
theorem dd_other {p x : S} {r : List S} (h : ¬ x = p) : dd p (x :: r) = x :: dd x r := by rw [dd, if_neg h]
end Go.Proofs.Ytmifionpagpnfaa
