/-
  The functions that compare stamps, and those that tell which are right.
  A member's clock: New, Now, Tick, See, by where it is.
  A stamp that is taken from a reader, by the program and by the reference.
  A stamp's form, put by the program and by the reference.
  WirR: grafted.
  WirP: grafted.
-/
import Derived.Test.YthnjbjlhfohpfaaGreatPut
import Derived.Test.YthnjbjlhfohpfaaGreatChain
import Derived.Deep.RegionWith
import Derived.Deep.DeepCutAuto
import Derived.BigQuiet
import Derived.Laws.ResultCell
import Derived.Test.YthnjbjlhfohpfaaGreatRef
import Derived.Test.YthnjbjlhfohpfaaGreatBase
import Derived.Test.YthnjbjlhfohpfaaGreatTurn
import Derived.Laws.CopyOwn
import Derived.Lib.AppendStr
namespace Go.Proofs.YthnjbjlhfohpfaaGreat
section
section
set_option linter.unusedVariables false
open Go.RowKit


theorem nan64 (x : Int) (w : World) : Calls Tryz.prog 89 #[.int .i64 x] w fun e w' => e = .returned (.bool false) ∧ w' = w := by
  go_enter Tryz.func89, Tryz.ntmps89
  go_wp2
  go_ret
  simp
theorem nanI (x : Int) (w : World) : Calls Tryz.prog 90 #[.int .i64 x] w fun e w' => e = .returned (.bool false) ∧ w' = w := by
  go_enter Tryz.func90, Tryz.ntmps90
  go_wp2
  go_ret
  simp

theorem cmp64 (x y : Int) (w : World) : Calls Tryz.prog 70 #[.int .i64 x, .int .i64 y] w fun e w' => e = .returned (.int .i64 (cmpI x y)) ∧ w' = w := by
  go_enter Tryz.func70, Tryz.ntmps70
  go_wp2_with (go_at_call 89; refine (nan64 _ _).mono ?_; rintro e w' ⟨rfl, rfl⟩)
  all_goals
    go_ret
    refine ⟨?_, rfl⟩
    unfold cmpI
    simp [*] <;> omega
theorem cmpInt (x y : Int) (w : World) : Calls Tryz.prog 71 #[.int .i64 x, .int .i64 y] w fun e w' => e = .returned (.int .i64 (cmpI x y)) ∧ w' = w := by
  go_enter Tryz.func71, Tryz.ntmps71
  go_wp2_with (go_at_call 90; refine (nanI _ _).mono ?_; rintro e w' ⟨rfl, rfl⟩)
  all_goals
    go_ret
    refine ⟨?_, rfl⟩
    unfold cmpI
    simp [*] <;> omega

/-- cmp.Or of two. -/
def orI (x y : Int) : Int := if x = 0 then y else x
theorem or_any (w : World) (b : Nat) (x y : Int) (h0 : w.cell? ⟨b, 0, none⟩ = some (.int .i64 x)) (h1 : w.cell? ⟨b, 1, none⟩ = some (.int .i64 y)) :
    Calls Tryz.prog 69 #[.slice (some ⟨b, 0, none⟩) 2 2] w fun e w' => e = .returned (.int .i64 (orI x y)) ∧ w' = w := by
  by_cases hx : x = 0
  · subst hx
    by_cases hy : y = 0
    · subst hy
      go_enter Tryz.func69, Tryz.ntmps69
      go_wp2
      refine wp_loop_rounds 3 ?_
      rw [rounds_succ]
      go_wp2
      rw [rounds_succ]
      go_wp2
      rw [rounds_succ]
      go_wp2
      go_ret
      simp [orI]
    · have hy' : (y != 0) = true := by simpa using hy
      go_enter Tryz.func69, Tryz.ntmps69
      go_wp2
      refine wp_loop_rounds 3 ?_
      rw [rounds_succ]
      go_wp2
      rw [rounds_succ]
      go_wp2
      go_ret
      simp [orI]
  · have hx' : (x != 0) = true := by simpa using hx
    go_enter Tryz.func69, Tryz.ntmps69
    go_wp2
    refine wp_loop_rounds 3 ?_
    rw [rounds_succ]
    go_wp2
    go_ret
    simp [orI, hx]

theorem grown3 (w : World) (o1 o2 o3 : Obj) (n : Nat) : (((w.alloc o1).alloc o2).drewN n).alloc o3 = Sort.grow (w.drewN n) (#[o1] ++ #[o2] ++ #[o3]) := by
  rw [Sort.alloc_eq_grow, Sort.alloc_eq_grow (w.alloc o1), Sort.alloc_eq_grow w, Sort.grow_grow]
  change Sort.grow (Sort.grow (w.drewN n) _) _ = _
  rw [Sort.grow_grow]

set_option maxHeartbeats 1000000 in
set_option maxRecDepth 20000 in
theorem compare_any (a b : S) (w : World) : Calls Tryz.prog 57 #[sv a, sv b] w fun e w' => e = .returned (.int .i64 (cmpS a b)) ∧ ∃ q os', w' = Sort.grow (w.drewN q) os' := by
  obtain ⟨a1, a2⟩ := a
  obtain ⟨b1, b2⟩ := b
  unfold sv
  rw [cmpS_parts]
  change Calls _ _ _ _ fun e w' => e = .returned (.int .i64 (orI (cmpI a1 b1) (cmpI a2 b2))) ∧ _
  go_enter Tryz.func57, Tryz.ntmps57
  go_upto_region 1 with fail
  refine wp_region_three (C := fun v => ∃ n, v = ((w.alloc (Obj.cells #[Value.int IntKind.i64 a1, Value.int IntKind.i64 a2] 35)).alloc (Obj.cells #[Value.int IntKind.i64 b1, Value.int IntKind.i64 b2] 35)).drewN n) 10 (by kernel_rfl) (by kernel_rfl) rfl rfl ⟨1, rfl⟩ ?_
  simp only [List.take_succ_cons, List.take_zero, List.drop_succ_cons, List.drop_zero, Nat.reduceAdd]
  repeat (go_big_quiet_step (first
    | (go_at_call 70; exact Calls.quiet_of_same (cmp64 _ _ _))
    | (go_at_call 71; exact Calls.quiet_of_same (cmpInt _ _ _))))
  refine wpQuiet_nil ?_
  intro w1 hw1
  obtain ⟨n, hn⟩ := hw1
  subst hn
  go_simp
  go_big_quiet_want
  go_big_quiet_op
  refine ⟨_, or_any _ (w.heap.size + 1 + 1) (cmpI a1 b1) (cmpI a2 b2) (by go_simp) (by go_simp), ?_⟩
  go_big_quiet_on
  repeat (go_big_quiet_step (fail))
  refine wpQuiet_nil ?_
  go_wp2
  go_ret
  exact ⟨rfl, n, _, grown3 _ _ _ _ _⟩

theorem writer_any (x : Int) (w : World) : Calls Tryz.prog 72 #[.int .i64 x] w fun e w' => e = .returned (.bool (decide (0 ≤ x ∧ x ≤ 7))) ∧ w' = w := by
  go_enter Tryz.func72, Tryz.ntmps72
  go_wp2
  all_goals
    go_ret
    refine ⟨ret_bool ?_, rfl⟩
    (try simp only [Bool.and_eq_true, decide_eq_true_eq, Bool.false_eq_true, false_iff]); omega

theorem right_any (s : S) (w : World) : Calls Tryz.prog 58 #[sv s] w fun e w' => e = .returned (.bool (decide (rightP s))) ∧ Below w.heap.size w w' := by
  obtain ⟨a1, a2⟩ := s
  have HR : Hid (decide (rightP (a1, a2)) = true ↔ (1 ≤ a1 ∧ a1 ≤ 1099511627776 ∧ 0 ≤ a2 ∧ a2 ≤ 7)) := (decide_eq_true_iff : _ ↔ rightP (a1, a2))
  generalize decide (rightP (a1, a2)) = p at HR ⊢
  unfold sv
  go_enter Tryz.func58, Tryz.ntmps58
  go_wp2_with (go_at_call 72; refine (writer_any _ _).mono ?_; rintro e w1 ⟨rfl, rfl⟩)
  all_goals
    go_ret
    refine ⟨ret_bool ?_, balloc (Below.refl _ w) _⟩
    rw [HR.out]
    (try simp only [Bool.and_eq_true, decide_eq_true_eq, Bool.false_eq_true, false_iff]); omega

theorem refright_any (s : S) (w : World) : Calls Tryz.prog 45 #[sv s] w fun e w' => e = .returned (.bool (decide (rightP s))) ∧ Below w.heap.size w w' := by
  obtain ⟨a1, a2⟩ := s
  have HR : Hid (decide (rightP (a1, a2)) = true ↔ (1 ≤ a1 ∧ a1 ≤ 1099511627776 ∧ 0 ≤ a2 ∧ a2 ≤ 7)) := (decide_eq_true_iff : _ ↔ rightP (a1, a2))
  generalize decide (rightP (a1, a2)) = p at HR ⊢
  unfold sv
  go_enter Tryz.func45, Tryz.ntmps45
  go_wp2
  all_goals
    go_ret
    refine ⟨ret_bool ?_, balloc (Below.refl _ w) _⟩
    rw [HR.out]
    (try simp only [decide_eq_true_eq, Bool.false_eq_true, false_iff]); omega

theorem refless_any (a b : S) (w : World) : Calls Tryz.prog 44 #[sv a, sv b] w fun e w' => e = .returned (.bool (decide (ltP a b))) ∧ Below w.heap.size w w' := by
  obtain ⟨a1, a2⟩ := a
  obtain ⟨b1, b2⟩ := b
  have HR : Hid (decide (ltP (a1, a2) (b1, b2)) = true ↔ (a1 < b1 ∨ a1 = b1 ∧ a2 < b2)) := (decide_eq_true_iff : _ ↔ ltP (a1, a2) (b1, b2))
  generalize decide (ltP (a1, a2) (b1, b2)) = p at HR ⊢
  unfold sv
  go_enter Tryz.func44, Tryz.ntmps44
  go_wp2
  all_goals
    go_ret
    refine ⟨ret_bool ?_, balloc (balloc (Below.refl _ w) _) _⟩
    rw [HR.out]
    (try simp only [decide_eq_true_eq, true_iff]); omega
end

section
set_option linter.unusedVariables false
open Go.RowKit

theorem Blk.set {w : World} {b : Nat} {e : TypeId} {vs : List Value} (h : Blk w b e vs) (i : Nat) (u : Value) : Blk (w.setCell ⟨b, i, none⟩ u) b e (vs.set i u) := by
  unfold Blk
  rw [heap_setCell_same w b i vs.toArray e u h]
  simp
theorem Blk.drew {w : World} {b : Nat} {e : TypeId} {vs : List Value} (h : Blk w b e vs) : Blk w.drew b e vs := h

theorem grown_drew {w w' : World} {r : Option Nat} (h : w.grownBy w' r) : w.grownBy w'.drew r := ⟨h.os, h.tape, h.output, h.size, h.block⟩
end

section
set_option linter.unusedVariables false
open Go.RowKit

theorem results_cell1 {fn : Func} {p : Tmp} {ty : TypeId} (h : fn.results = #[.cell p ty]) (tmps : Array Value) (P : Program) (w : World) :
    (results fn tmps).run P w = ((asAddr (tmps.getD p undef)).run P w).andThen fun a w₁ => (loadVar ty a).run P w₁ := by
  simp only [results, h]
  simp [Sem.run_bind, Result.andThen]

/-- What taking a stamp makes of a reader. -/
def gotS (l : List Int) (k : Int) : S × List Int × Int :=
  ((zag (rNum l k).1, (rCount (rNum l k).2.1 (rNum l k).2.2 7).1), (rCount (rNum l k).2.1 (rNum l k).2.2 7).2.1, (rCount (rNum l k).2.1 (rNum l k).2.2 7).2.2)

/-- Bytes stay while a stamp's block is written: they lie in no such block. -/
theorem Rd.pastS {w w' : World} {v : Value} {l : List Int} {c : Nat} {e : TypeId} {x y : Int} (h : Rd w v l) (hX : Blk w c e [.int .i64 x, .int .i64 y]) (hg : w.grownBy w' (some c)) : Rd w' v l := by
  obtain ⟨ho, a, cap, rfl, h1, h2, h3, h4⟩ := h
  refine ⟨ho, a, cap, rfl, h1, h2, h3, fun hp => ?_⟩
  obtain ⟨d, off, rfl, hc⟩ := h4 hp
  refine ⟨d, off, rfl, fun j hj => hg.cell (hc j hj) fun e => ?_⟩
  obtain rfl : d = c := by simpa using e
  have hcj := hc j hj
  rcases Nat.lt_trichotomy (off + j) 1 with h | h | h
  · rw [show off + j = 0 by omega, hX.cell 0 _ rfl] at hcj; cases hcj
  · rw [h, hX.cell 1 _ rfl] at hcj; cases hcj
  · have hn : w.cell? ⟨d, off + j, none⟩ = none := by
      unfold Blk at hX
      simp [World.cell?, hX]
      omega
    rw [hn] at hcj
    cases hcj
theorem Rdr.pastS {w w' : World} {b c : Nat} {l : List Int} {k : Int} {e : TypeId} {x y : Int} (h : Rdr w b l k) (hX : Blk w c e [.int .i64 x, .int .i64 y]) (hg : w.grownBy w' (some c)) (hb : b ≠ c) : Rdr w' b l k := by
  obtain ⟨v, hv, hrd⟩ := h.left
  have hbl : w'.heap[b]? = w.heap[b]? := hg.block b (World.block_lt_of_cell? w _ hv) (fun e => hb (Option.some.inj e))
  exact ⟨⟨v, (World.cell?_of_block hbl).trans hv, hrd.pastS hX hg⟩, (World.cell?_of_block hbl).trans h.wrong, (World.frozen?_of_block hbl).trans h.f0, (World.frozen?_of_block hbl).trans h.f1, fun o ho => (World.cell?_of_block hbl).trans (h.two o ho), h.gone⟩
theorem stored {w w1 w2 : World} {b : Nat} {o : Obj} {u0 u1 : Value} (hlt : b < w.heap.size) (hg1 : (w.alloc o).grownBy w1 (some b)) (hg2 : w1.grownBy w2 (some b)) : w.grownBy ((w2.setCell ⟨w.heap.size, 0, none⟩ u0).setCell ⟨w.heap.size, 1, none⟩ u1) (some b) := by
  have h := grown_trans (grown_none (World.grownBy_alloc w o none) hg1) hg2 (fun k hk => .inl hk)
  refine grown_trans (grown_trans h (grown_setCell _ _ _ _) (fun k hk => .inr (by have := Option.some.inj hk; omega))) (grown_setCell _ _ _ _) (fun k hk => .inr (by have := Option.some.inj hk; omega))
end
end

section
set_option linter.unusedVariables false
open Go.RowKit

theorem below_undrew {w w' : World} (h : Below w.drew.heap.size w.drew w') : Below w.heap.size w w' := ⟨h.os, h.tape, h.output, h.size, h.block⟩
/-- A stamp's form. -/
def putS (s : S) : List Int := form (zig s.1) ++ form (max s.2 0).toNat
theorem putS_len (s : S) (hs : SOk s) : (putS s).length ≤ 20 := by
  obtain ⟨⟨h1, h2⟩, h3, h4⟩ := hs
  unfold putS
  rw [List.length_append]
  have e1 := form_le10 (n := zig s.1) (zig_lt s.1 ⟨h1, h2⟩)
  have e2 := form_le10 (n := (max s.2 0).toNat) (by omega)
  omega
end

section
section
set_option linter.unusedVariables false
open Go.RowKit
end
section
section
set_option linter.unusedVariables false
open Go.RowKit
end
section
set_option linter.unusedVariables false
open Go.RowKit
end
section
set_option linter.unusedVariables false
open Go.RowKit
end
end
section
set_option linter.unusedVariables false
open Go.RowKit
end
section
set_option linter.unusedVariables false
open Go.RowKit
end
section
set_option linter.unusedVariables false
open Go.RowKit
end
section
section
set_option linter.unusedVariables false
set_option linter.unusedSimpArgs false
set_option synthInstance.maxSize 20000
set_option maxHeartbeats 2000000
set_option maxRecDepth 20000
open Go.RowKit Go.Maps
theorem eql_slice (t e : TypeId) (hu : Tryz.prog.underlying t = some (.slice e)) (w : World) (a : Option Addr) (n c : Nat) : (binOp .eql t (.slice a n c) (.slice none 0 0)).run Tryz.prog w = .ok (.bool a.isNone) w := by
  have key : ∀ d, (Op.equalIn (d + 1) t (.slice a n c) (.slice none 0 0)).run Tryz.prog w = .ok a.isNone w := fun d => by
    cases a <;> simp [Op.equalIn, run_underlying hu, Result.andThen]
  have e1 : (binOp .eql t (.slice a n c) (.slice none 0 0)).run Tryz.prog w = ((Op.equalIn (9999 + 1) t (.slice a n c) (.slice none 0 0)).run Tryz.prog w).andThen fun b w' => .ok (.bool b) w' := by
    simp only [binOp]
    simp [Op.equal, Op.maxDepth]
  rw [e1, key]
  rfl
theorem bclone_any (v : Value) (l : List Int) (w : World) (hv : Rd w v l) (hl : l.length ≤ 1000000) :
    Calls Tryz.prog 36 #[v] w fun e w' => ∃ v', e = .returned v' ∧ Own w.heap.size 5 w' v' l ∧ Below w.heap.size w w' := by
  have HV : Hid (Rd w v l) := hv
  obtain ⟨hU, a, cap, rfl, h1, h2, h3, h4⟩ := hv
  cases a with
  | none =>
    have hc := h3 rfl
    subst hc
    have hl0 : l = [] := List.eq_nil_of_length_eq_zero (by omega)
    subst hl0
    have hq := eql_slice 36 5 (by kernel_rfl) w none 0 0
    go_enter Tryz.func36, Tryz.ntmps36
    go_wp2
    go_ret
    exact ⟨_, rfl, own_nil _ _ w, Below.refl _ _⟩
  | some ad =>
    have hq := eql_slice 36 5 (by kernel_rfl) w (some ad) l.length cap
    have HO : Hid (Own w.heap.size 5 (w.alloc (.cells #[] 5)) (.slice (some ⟨w.heap.size, 0, none⟩) 0 0) []) :=
      ⟨Oct.nil, rfl, .inr ⟨w.heap.size, 0, #[], rfl, Nat.le_refl _, heap_alloc_new w _, Nat.le_refl _, Nat.zero_le _, rfl, rfl⟩⟩
    have HB : Hid (Below w.heap.size w (w.alloc (.cells #[] 5))) := (show Below _ _ _ from balloc (Below.refl _ _) _)
    clear h4
    go_enter Tryz.func36, Tryz.ntmps36
    go_wp2_with (at_builtin; go_must (refine wpList_append_cells 36 5 byteTy rfl (.tmp 5) (.tmp 6) rfl w.heap.size _ [] rfl HO.out _ l rfl (HV.out.below HB.out) (by simp; omega) (by simp) ?_; intro v2 w2 hown2 hg2))
    go_ret
    exact ⟨_, rfl, by simpa using hown2, HO.out.below HB.out (Nat.le_refl _) hg2⟩
end
end
end

section
section
set_option linter.unusedVariables false
open Go.RowKit
end
section
set_option linter.unusedVariables false
open Go.RowKit
end
end
end Go.Proofs.YthnjbjlhfohpfaaGreat
