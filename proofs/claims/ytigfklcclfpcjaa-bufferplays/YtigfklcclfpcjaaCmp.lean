/-
  The functions that compare stamps, and those that tell which are right.
  A member's clock: New, Now, Tick, See, by where it is.
  A stamp that is taken from a reader, by the program and by the reference.
-/
import Derived.Test.YtigfklcclfpcjaaPut
import Derived.Test.YtigfklcclfpcjaaChain
import Derived.Deep.RegionWith
import Derived.Deep.DeepCutAuto
import Derived.BigQuiet
import Derived.Laws.ResultCell
namespace Go.Proofs.Ytigfklcclfpcjaa
section
set_option linter.unusedVariables false
open Go.RowKit


/-- cmp.Or of two. -/
def orI (x y : Int) : Int := if x = 0 then y else x
theorem grown3 (w : World) (o1 o2 o3 : Obj) (n : Nat) : (((w.alloc o1).alloc o2).drewN n).alloc o3 = Sort.grow (w.drewN n) (#[o1] ++ #[o2] ++ #[o3]) := by
  rw [Sort.alloc_eq_grow, Sort.alloc_eq_grow (w.alloc o1), Sort.alloc_eq_grow w, Sort.grow_grow]
  change Sort.grow (Sort.grow (w.drewN n) _) _ = _
  rw [Sort.grow_grow]

theorem writer_any (x : Int) (w : World) : Calls Try.prog 56 #[.int .i64 x] w fun e w' => e = .returned (.bool (decide (0 ≤ x ∧ x ≤ 7))) ∧ w' = w := by
  go_enter Try.func56, Try.ntmps56
  go_wp2
  all_goals
    go_ret
    refine ⟨ret_bool ?_, rfl⟩
    (try simp only [Bool.and_eq_true, decide_eq_true_eq, Bool.false_eq_true, false_iff]); omega

theorem right_any (s : S) (w : World) : Calls Try.prog 52 #[sv s] w fun e w' => e = .returned (.bool (decide (rightP s))) ∧ Below w.heap.size w w' := by
  obtain ⟨a1, a2⟩ := s
  have HR : Hid (decide (rightP (a1, a2)) = true ↔ (1 ≤ a1 ∧ a1 ≤ 1099511627776 ∧ 0 ≤ a2 ∧ a2 ≤ 7)) := (decide_eq_true_iff : _ ↔ rightP (a1, a2))
  generalize decide (rightP (a1, a2)) = p at HR ⊢
  unfold sv
  go_enter Try.func52, Try.ntmps52
  go_wp2_with (go_at_call 56; refine (writer_any _ _).mono ?_; rintro e w1 ⟨rfl, rfl⟩)
  all_goals
    go_ret
    refine ⟨ret_bool ?_, balloc (Below.refl _ w) _⟩
    rw [HR.out]
    (try simp only [Bool.and_eq_true, decide_eq_true_eq, Bool.false_eq_true, false_iff]); omega

theorem refright_any (s : S) (w : World) : Calls Try.prog 47 #[sv s] w fun e w' => e = .returned (.bool (decide (rightP s))) ∧ Below w.heap.size w w' := by
  obtain ⟨a1, a2⟩ := s
  have HR : Hid (decide (rightP (a1, a2)) = true ↔ (1 ≤ a1 ∧ a1 ≤ 1099511627776 ∧ 0 ≤ a2 ∧ a2 ≤ 7)) := (decide_eq_true_iff : _ ↔ rightP (a1, a2))
  generalize decide (rightP (a1, a2)) = p at HR ⊢
  unfold sv
  go_enter Try.func47, Try.ntmps47
  go_wp2
  all_goals
    go_ret
    refine ⟨ret_bool ?_, balloc (Below.refl _ w) _⟩
    rw [HR.out]
    (try simp only [decide_eq_true_eq, Bool.false_eq_true, false_iff]); omega

end

section
set_option linter.unusedVariables false
open Go.RowKit

theorem Blk.set {w : World} {b : Nat} {e : TypeId} {vs : List Value} (h : Blk w b e vs) (i : Nat) (u : Value) : Blk (w.setCell ⟨b, i, none⟩ u) b e (vs.set i u) := by
  unfold Blk
  rw [heap_setCell_same w b i vs.toArray e u h]
  simp
theorem Blk.drew {w : World} {b : Nat} {e : TypeId} {vs : List Value} (h : Blk w b e vs) : Blk w.drew b e vs := h

theorem grown_drew {w w' : World} {r : Option Nat} (h : w.grownBy w' r) : w.grownBy w'.drew r := ⟨h.os, h.tape, h.output, h.size, h.block⟩
end

section
set_option linter.unusedVariables false
open Go.RowKit

theorem results_cell1 {fn : Func} {p : Tmp} {ty : TypeId} (h : fn.results = #[.cell p ty]) (tmps : Array Value) (P : Program) (w : World) :
    (results fn tmps).run P w = ((asAddr (tmps.getD p undef)).run P w).andThen fun a w₁ => (loadVar ty a).run P w₁ := by
  simp only [results, h]
  simp [Sem.run_bind, Result.andThen]

/-- What taking a stamp makes of a reader. -/
def gotS (l : List Int) (k : Int) : S × List Int × Int :=
  ((zag (rNum l k).1, (rCount (rNum l k).2.1 (rNum l k).2.2 7).1), (rCount (rNum l k).2.1 (rNum l k).2.2 7).2.1, (rCount (rNum l k).2.1 (rNum l k).2.2 7).2.2)

/-- Bytes stay while a stamp's block is written: they lie in no such block. -/
theorem Rd.pastS {w w' : World} {v : Value} {l : List Int} {c : Nat} {e : TypeId} {x y : Int} (h : Rd w v l) (hX : Blk w c e [.int .i64 x, .int .i64 y]) (hg : w.grownBy w' (some c)) : Rd w' v l := by
  obtain ⟨ho, a, cap, rfl, h1, h2, h3, h4⟩ := h
  refine ⟨ho, a, cap, rfl, h1, h2, h3, fun hp => ?_⟩
  obtain ⟨d, off, rfl, hc⟩ := h4 hp
  refine ⟨d, off, rfl, fun j hj => hg.cell (hc j hj) fun e => ?_⟩
  obtain rfl : d = c := by simpa using e
  have hcj := hc j hj
  rcases Nat.lt_trichotomy (off + j) 1 with h | h | h
  · rw [show off + j = 0 by omega, hX.cell 0 _ rfl] at hcj; cases hcj
  · rw [h, hX.cell 1 _ rfl] at hcj; cases hcj
  · have hn : w.cell? ⟨d, off + j, none⟩ = none := by
      unfold Blk at hX
      simp [World.cell?, hX]
      omega
    rw [hn] at hcj
    cases hcj
theorem Rdr.pastS {w w' : World} {b c : Nat} {l : List Int} {k : Int} {e : TypeId} {x y : Int} (h : Rdr w b l k) (hX : Blk w c e [.int .i64 x, .int .i64 y]) (hg : w.grownBy w' (some c)) (hb : b ≠ c) : Rdr w' b l k := by
  obtain ⟨v, hv, hrd⟩ := h.left
  have hbl : w'.heap[b]? = w.heap[b]? := hg.block b (World.block_lt_of_cell? w _ hv) (fun e => hb (Option.some.inj e))
  exact ⟨⟨v, (World.cell?_of_block hbl).trans hv, hrd.pastS hX hg⟩, (World.cell?_of_block hbl).trans h.wrong, (World.frozen?_of_block hbl).trans h.f0, (World.frozen?_of_block hbl).trans h.f1, fun o ho => (World.cell?_of_block hbl).trans (h.two o ho), h.gone⟩
theorem stored {w w1 w2 : World} {b : Nat} {o : Obj} {u0 u1 : Value} (hlt : b < w.heap.size) (hg1 : (w.alloc o).grownBy w1 (some b)) (hg2 : w1.grownBy w2 (some b)) : w.grownBy ((w2.setCell ⟨w.heap.size, 0, none⟩ u0).setCell ⟨w.heap.size, 1, none⟩ u1) (some b) := by
  have h := grown_trans (grown_none (World.grownBy_alloc w o none) hg1) hg2 (fun k hk => .inl hk)
  refine grown_trans (grown_trans h (grown_setCell _ _ _ _) (fun k hk => .inr (by have := Option.some.inj hk; omega))) (grown_setCell _ _ _ _) (fun k hk => .inr (by have := Option.some.inj hk; omega))
end
end Go.Proofs.Ytigfklcclfpcjaa
