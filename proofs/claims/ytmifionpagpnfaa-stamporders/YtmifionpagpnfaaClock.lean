/-
  A member's clock: New, Now, Tick, See, by where it is.
-/
import Derived.Test.YtmifionpagpnfaaCmp
import Derived.Test.YtmifionpagpnfaaReader
import Derived.Laws.ResultCell
namespace Go.Proofs.Ytmifionpagpnfaa
set_option linter.unusedVariables false
open Go.RowKit

theorem Blk.set {w : World} {b : Nat} {e : TypeId} {vs : List Value} (h : Blk w b e vs) (i : Nat) (u : Value) : Blk (w.setCell ⟨b, i, none⟩ u) b e (vs.set i u) := by
  unfold Blk
  rw [heap_setCell_same w b i vs.toArray e u h]
  simp
theorem Blk.drew {w : World} {b : Nat} {e : TypeId} {vs : List Value} (h : Blk w b e vs) : Blk w.drew b e vs := h

theorem grown_drew {w w' : World} {r : Option Nat} (h : w.grownBy w' r) : w.grownBy w'.drew r := ⟨h.os, h.tape, h.output, h.size, h.block⟩

/-- Block b is the clock of x, at t. -/
def Clk (w : World) (b : Nat) (x t : Int) : Prop := Blk w b 74 [.int .i64 x, .int .i64 t]
theorem Clk.below {w w' : World} {b : Nat} {x t : Int} (h : Clk w b x t) (hb : Below w.heap.size w w') : Clk w' b x t := Blk.below h hb
theorem Clk.lt {w : World} {b : Nat} {x t : Int} (h : Clk w b x t) : b < w.heap.size := Blk.lt h

theorem new_any (x : Int) (w : World) (hx : 0 ≤ x ∧ x ≤ 7) : Calls Try.prog 29 #[.int .i64 x] w fun e w' => e = .returned (.tuple #[ptr w.heap.size, .int .i64 0]) ∧ Clk w' w.heap.size x 0 ∧ Below w.heap.size w w' := by
  have h := fun w' => writer_any x w'
  rw [decide_eq_true hx] at h
  clear hx
  go_enter Try.func29, Try.ntmps29
  go_wp2_with (go_at_call 34; refine (h _).mono ?_; rintro e w1 ⟨rfl, rfl⟩)
  go_ret2
  exact ⟨rfl, blk_new _ [.int .i64 x, .int .i64 0] 74, balloc (Below.refl _ _) _⟩

theorem new_bad (x : Int) (w : World) (hx : ¬ (0 ≤ x ∧ x ≤ 7)) : Calls Try.prog 29 #[.int .i64 x] w fun e w' => e = .returned (.tuple #[.pointer none, .int .i64 1]) ∧ w' = w := by
  have h := fun w' => writer_any x w'
  rw [decide_eq_false hx] at h
  clear hx
  go_enter Try.func29, Try.ntmps29
  go_wp2_with (go_at_call 34; refine (h _).mono ?_; rintro e w1 ⟨rfl, rfl⟩)
  go_ret2
  exact ⟨rfl, rfl⟩

theorem now_any (w : World) (b : Nat) (x t : Int) (h : Clk w b x t) : Calls Try.prog 30 #[ptr b] w fun e w' => e = .returned (.int .i64 t) ∧ w' = w := by
  have h1 := Blk.cell h 1 _ rfl
  clear h
  go_enter Try.func30, Try.ntmps30
  go_wp2
  go_ret
  exact ⟨rfl, rfl⟩

theorem now_nil (w : World) : Calls Try.prog 30 #[.pointer none] w fun e w' => e = .returned (.int .i64 0) ∧ w' = w := by
  go_enter Try.func30, Try.ntmps30
  go_wp2
  go_ret
  exact ⟨rfl, rfl⟩

theorem tick_nil (w : World) : Calls Try.prog 31 #[.pointer none] w fun e w' => e = .returned (.tuple #[sv (0, 0), .int .i64 23]) ∧ Below w.heap.size w w' := by
  go_enter Try.func31, Try.ntmps31
  go_wp2
  refine bodyPost_ret (v := .tuple #[sv (0, 0), .int .i64 23]) ?_ rfl ⟨rfl, ?_⟩
  · rw [results_cell_tmp rfl]
    unfold sv
    go_simp
  · exact balloc (Below.refl _ w) _

theorem tick_end (w : World) (b : Nat) (x t : Int) (h : Clk w b x t) (ht : 1099511627776 ≤ t) : Calls Try.prog 31 #[ptr b] w fun e w' => e = .returned (.tuple #[sv (0, 0), .int .i64 2]) ∧ Below w.heap.size w w' := by
  have h1 := Blk.cell (h.below (balloc (Below.refl _ w) (.cells #[.int .i64 0, .int .i64 0] 23))) 1 _ rfl
  go_enter Try.func31, Try.ntmps31
  go_wp2
  refine bodyPost_ret (v := .tuple #[sv (0, 0), .int .i64 2]) ?_ rfl ⟨rfl, ?_⟩
  · rw [results_cell_tmp rfl]
    unfold sv
    go_simp
  · exact balloc (Below.refl _ w) _

theorem tick_any (w : World) (b : Nat) (x t : Int) (h : Clk w b x t) (ht : 0 ≤ t ∧ t < 1099511627776) :
    Calls Try.prog 31 #[ptr b] w fun e w' => e = .returned (.tuple #[sv (t + 1, x), .int .i64 0]) ∧ Clk w' b x (t + 1) ∧ w.grownBy w' (some b) := by
  have H := h.below (balloc (Below.refl _ w) (.cells #[.int .i64 0, .int .i64 0] 23))
  have h1 := Blk.cell H 1 _ rfl
  have f1 := Blk.frozen H 1
  have hlt := h.lt
  have HC : Hid (Clk w b x t) := h
  have K : Clk ((w.setCell { block := b, off := 1 } (Value.int IntKind.i64 (t + 1))).alloc (Obj.cells #[Value.int IntKind.i64 0, Value.int IntKind.i64 0] 23)) b x (t + 1) := (Blk.set h 1 (.int .i64 (t + 1))).alloc _
  have k0 := Blk.cell K 0 _ rfl
  have k1 := Blk.cell K 1 _ rfl
  have HK : Hid _ := K
  clear H h K
  go_enter Try.func31, Try.ntmps31
  go_wp2
  go_region
  go_wp2
  refine bodyPost_ret (v := .tuple #[sv (t + 1, x), .int .i64 0]) ?_ rfl ⟨rfl, ?_, ?_⟩
  · rw [results_cell_tmp rfl]
    unfold sv
    go_simp
  · exact (Blk.set HC.out 1 (.int .i64 (t + 1))).alloc _
  · exact grown_drew (grown_trans (grown_setCell w b 1 _) (World.grownBy_alloc _ _ none) (fun k h => by cases h))

theorem see_nil (s : S) (w : World) : Calls Try.prog 32 #[.pointer none, sv s] w fun e w' => e = .returned (.int .i64 23) ∧ Below w.heap.size w w' := by
  obtain ⟨s1, s2⟩ := s
  unfold sv
  go_enter Try.func32, Try.ntmps32
  go_wp2
  go_ret
  exact ⟨rfl, balloc (Below.refl _ w) _⟩

theorem see_bad (w : World) (b : Nat) (x t : Int) (s : S) (h : Clk w b x t) (hs : ¬ rightP s) : Calls Try.prog 32 #[ptr b, sv s] w fun e w' => e = .returned (.int .i64 1) ∧ Below w.heap.size w w' := by
  have hr := fun w' => right_any s w'
  rw [decide_eq_false hs] at hr
  obtain ⟨s1, s2⟩ := s
  unfold sv at hr ⊢
  clear h hs
  go_enter Try.func32, Try.ntmps32
  go_wp2_with (go_at_call 10; refine (hr _).mono ?_; rintro e w1 ⟨rfl, hb⟩)
  go_ret
  exact ⟨rfl, bnext (balloc (Below.refl _ w) _) hb⟩

theorem see_any (w : World) (b : Nat) (x t : Int) (s : S) (h : Clk w b x t) (hs : rightP s) :
    Calls Try.prog 32 #[ptr b, sv s] w fun e w' => e = .returned (.int .i64 0) ∧ Clk w' b x (max t s.1) ∧ w.grownBy w' (some b) := by
  have hr := fun w' => right_any s w'
  rw [decide_eq_true hs] at hr
  obtain ⟨s1, s2⟩ := s
  have HC : Hid (Clk w b x t) := h
  have hlt := h.lt
  unfold sv at hr ⊢
  clear h hs
  go_enter Try.func32, Try.ntmps32
  go_wp2_with (go_at_call 10; refine (hr _).mono ?_; rintro e w1 ⟨rfl, hb⟩
               have K := (HC.out.below (balloc (Below.refl _ w) (.cells #[.int .i64 s1, .int .i64 s2] 23))).below hb
               have X := (blk_new w [.int .i64 s1, .int .i64 s2] 23).below hb
               have k1 := Blk.cell K 1 _ rfl
               have f1 := Blk.frozen K 1
               have x0 := X.cell 0 _ rfl
               have HK : Hid _ := K
               have HB : Hid _ := hb
               clear K X hb)
  go_region
  go_wp2
  all_goals
    go_ret
    refine ⟨rfl, ?_, grown_drew (grown_none (below_grown (bnext (balloc (Below.refl _ w) _) HB.out)) (grown_setCell w1 b 1 _))⟩
  · rw [show max t s1 = s1 by omega]; exact Blk.set HK.out 1 _
  · rw [show max t s1 = t by omega]; exact Blk.set HK.out 1 _

set_option maxHeartbeats 1000000 in
set_option maxRecDepth 20000 in
/-- The chapter's example. -/
theorem alive_any (w : World) : Calls Try.prog 9 #[] w fun e w' => e = .returned (.bool true) ∧ Below w.heap.size w w' := by
  have hn := fun w' => new_any 2 w' (by omega)
  have HT : Hid (∀ w' b, Clk w' b 2 0 → Calls Try.prog 31 #[ptr b] w' fun e w'' => e = .returned (.tuple #[.agg #[.int .i64 1, .int .i64 2], .int .i64 0]) ∧ Clk w'' b 2 1 ∧ w'.grownBy w'' (some b)) := fun w' b h => tick_any w' b 2 0 h (by omega)
  have H1 : Hid (∀ w', Calls Try.prog 12 #[.agg #[.int .i64 3, .int .i64 1], .agg #[.int .i64 3, .int .i64 2]] w' fun e w'' => e = .returned (.bool true) ∧ Below w'.heap.size w' w'') := fun w' => by
    have := less_any (3, 1) (3, 2) w'
    rwa [show decide (ltP (3, 1) (3, 2)) = true by decide] at this
  have H2 : Hid (∀ w', Calls Try.prog 12 #[.agg #[.int .i64 2, .int .i64 9], .agg #[.int .i64 3, .int .i64 1]] w' fun e w'' => e = .returned (.bool true) ∧ Below w'.heap.size w' w'') := fun w' => by
    have := less_any (2, 9) (3, 1) w'
    rwa [show decide (ltP (2, 9) (3, 1)) = true by decide] at this
  have tk : Hid True := trivial
  go_enter Try.func9, Try.ntmps9
  go_wp2_with (first
    | (go_at_call 29; refine (hn _).mono ?_; rintro e w1 ⟨rfl, hc, hb⟩)
    | (go_at_call 31; refine (HT.out _ _ hc).mono ?_; rintro e w2 ⟨rfl, hc2, hg⟩; have hb2 := bgrown hb (Nat.le_refl _) hg; clear hc hg hc2)
    | (go_at_call 12; have _t := tk; refine (H1.out _).mono ?_; rintro e w3 ⟨rfl, hb3⟩; clear tk _t)
    | (go_at_call 12; refine (H2.out _).mono ?_; rintro e w4 ⟨rfl, hb4⟩))
  go_ret
  exact ⟨rfl, bnext (bnext (balloc hb2 _) hb3) hb4⟩
end Go.Proofs.Ytmifionpagpnfaa
