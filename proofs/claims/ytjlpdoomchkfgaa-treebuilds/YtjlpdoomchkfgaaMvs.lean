/-
  The functions that compare stamps, and those that tell which are right.
  A member's clock: New, Now, Tick, See, by where it is.
  A stamp that is taken from a reader, by the program and by the reference.
  A stamp's form, put by the program and by the reference.
  WirR: grafted.
  WirP: grafted.
  Owners of blocks: who may write which block; what a step turns (Mv); bytes that stay (Kp0). Where append leaves a row.
-/
import Derived.Test.YtjlpdoomchkfgaaPut
import Derived.Test.YtjlpdoomchkfgaaChain
import Derived.Deep.RegionWith
import Derived.Deep.DeepCutAuto
import Derived.BigQuiet
import Derived.Laws.ResultCell
import Derived.Test.YtjlpdoomchkfgaaRef
import Derived.Test.YtjlpdoomchkfgaaBase
import Derived.Test.YtjlpdoomchkfgaaTurn
import Derived.Laws.CopyOwn
import Derived.Lib.AppendStr
import Derived.WalkSmall
import Derived.Laws.OwnMore
import Derived.Laws.MakeOwn
namespace Go.Proofs.Ytjlpdoomchkfgaa
section
section
set_option linter.unusedVariables false
open Go.RowKit


theorem nan64 (x : Int) (w : World) : Calls Try.prog 102 #[.int .i64 x] w fun e w' => e = .returned (.bool false) ∧ w' = w := by
  go_enter Try.func102, Try.ntmps102
  go_wp2
  go_ret
  simp
theorem nanI (x : Int) (w : World) : Calls Try.prog 103 #[.int .i64 x] w fun e w' => e = .returned (.bool false) ∧ w' = w := by
  go_enter Try.func103, Try.ntmps103
  go_wp2
  go_ret
  simp

theorem cmp64 (x y : Int) (w : World) : Calls Try.prog 92 #[.int .i64 x, .int .i64 y] w fun e w' => e = .returned (.int .i64 (cmpI x y)) ∧ w' = w := by
  go_enter Try.func92, Try.ntmps92
  go_wp2_with (go_at_call 102; refine (nan64 _ _).mono ?_; rintro e w' ⟨rfl, rfl⟩)
  all_goals
    go_ret
    refine ⟨?_, rfl⟩
    unfold cmpI
    simp [*] <;> omega
theorem cmpInt (x y : Int) (w : World) : Calls Try.prog 93 #[.int .i64 x, .int .i64 y] w fun e w' => e = .returned (.int .i64 (cmpI x y)) ∧ w' = w := by
  go_enter Try.func93, Try.ntmps93
  go_wp2_with (go_at_call 103; refine (nanI _ _).mono ?_; rintro e w' ⟨rfl, rfl⟩)
  all_goals
    go_ret
    refine ⟨?_, rfl⟩
    unfold cmpI
    simp [*] <;> omega

/-- cmp.Or of two. -/
def orI (x y : Int) : Int := if x = 0 then y else x
theorem or_any (w : World) (b : Nat) (x y : Int) (h0 : w.cell? ⟨b, 0, none⟩ = some (.int .i64 x)) (h1 : w.cell? ⟨b, 1, none⟩ = some (.int .i64 y)) :
    Calls Try.prog 91 #[.slice (some ⟨b, 0, none⟩) 2 2] w fun e w' => e = .returned (.int .i64 (orI x y)) ∧ w' = w := by
  by_cases hx : x = 0
  · subst hx
    by_cases hy : y = 0
    · subst hy
      go_enter Try.func91, Try.ntmps91
      go_wp2
      refine wp_loop_rounds 3 ?_
      rw [rounds_succ]
      go_wp2
      rw [rounds_succ]
      go_wp2
      rw [rounds_succ]
      go_wp2
      go_ret
      simp [orI]
    · have hy' : (y != 0) = true := by simpa using hy
      go_enter Try.func91, Try.ntmps91
      go_wp2
      refine wp_loop_rounds 3 ?_
      rw [rounds_succ]
      go_wp2
      rw [rounds_succ]
      go_wp2
      go_ret
      simp [orI]
  · have hx' : (x != 0) = true := by simpa using hx
    go_enter Try.func91, Try.ntmps91
    go_wp2
    refine wp_loop_rounds 3 ?_
    rw [rounds_succ]
    go_wp2
    go_ret
    simp [orI, hx]

theorem grown3 (w : World) (o1 o2 o3 : Obj) (n : Nat) : (((w.alloc o1).alloc o2).drewN n).alloc o3 = Sort.grow (w.drewN n) (#[o1] ++ #[o2] ++ #[o3]) := by
  rw [Sort.alloc_eq_grow, Sort.alloc_eq_grow (w.alloc o1), Sort.alloc_eq_grow w, Sort.grow_grow]
  change Sort.grow (Sort.grow (w.drewN n) _) _ = _
  rw [Sort.grow_grow]

set_option maxHeartbeats 1000000 in
set_option maxRecDepth 20000 in
theorem compare_any (a b : S) (w : World) : Calls Try.prog 77 #[sv a, sv b] w fun e w' => e = .returned (.int .i64 (cmpS a b)) ∧ ∃ q os', w' = Sort.grow (w.drewN q) os' := by
  obtain ⟨a1, a2⟩ := a
  obtain ⟨b1, b2⟩ := b
  unfold sv
  rw [cmpS_parts]
  change Calls _ _ _ _ fun e w' => e = .returned (.int .i64 (orI (cmpI a1 b1) (cmpI a2 b2))) ∧ _
  go_enter Try.func77, Try.ntmps77
  go_upto_region 1 with fail
  refine wp_region_three (C := fun v => ∃ n, v = ((w.alloc (Obj.cells #[Value.int IntKind.i64 a1, Value.int IntKind.i64 a2] 24)).alloc (Obj.cells #[Value.int IntKind.i64 b1, Value.int IntKind.i64 b2] 24)).drewN n) 10 (by kernel_rfl) (by kernel_rfl) rfl rfl ⟨1, rfl⟩ ?_
  simp only [List.take_succ_cons, List.take_zero, List.drop_succ_cons, List.drop_zero, Nat.reduceAdd]
  repeat (go_big_quiet_step (first
    | (go_at_call 92; exact Calls.quiet_of_same (cmp64 _ _ _))
    | (go_at_call 93; exact Calls.quiet_of_same (cmpInt _ _ _))))
  refine wpQuiet_nil ?_
  intro w1 hw1
  obtain ⟨n, hn⟩ := hw1
  subst hn
  go_simp
  go_big_quiet_want
  go_big_quiet_op
  refine ⟨_, or_any _ (w.heap.size + 1 + 1) (cmpI a1 b1) (cmpI a2 b2) (by go_simp) (by go_simp), ?_⟩
  go_big_quiet_on
  repeat (go_big_quiet_step (fail))
  refine wpQuiet_nil ?_
  go_wp2
  go_ret
  exact ⟨rfl, n, _, grown3 _ _ _ _ _⟩

theorem writer_any (x : Int) (w : World) : Calls Try.prog 73 #[.int .i64 x] w fun e w' => e = .returned (.bool (decide (0 ≤ x ∧ x ≤ 7))) ∧ w' = w := by
  go_enter Try.func73, Try.ntmps73
  go_wp2
  all_goals
    go_ret
    refine ⟨ret_bool ?_, rfl⟩
    (try simp only [Bool.and_eq_true, decide_eq_true_eq, Bool.false_eq_true, false_iff]); omega

theorem right_any (s : S) (w : World) : Calls Try.prog 55 #[sv s] w fun e w' => e = .returned (.bool (decide (rightP s))) ∧ Below w.heap.size w w' := by
  obtain ⟨a1, a2⟩ := s
  have HR : Hid (decide (rightP (a1, a2)) = true ↔ (1 ≤ a1 ∧ a1 ≤ 1099511627776 ∧ 0 ≤ a2 ∧ a2 ≤ 7)) := (decide_eq_true_iff : _ ↔ rightP (a1, a2))
  generalize decide (rightP (a1, a2)) = p at HR ⊢
  unfold sv
  go_enter Try.func55, Try.ntmps55
  go_wp2_with (go_at_call 73; refine (writer_any _ _).mono ?_; rintro e w1 ⟨rfl, rfl⟩)
  all_goals
    go_ret
    refine ⟨ret_bool ?_, balloc (Below.refl _ w) _⟩
    rw [HR.out]
    (try simp only [Bool.and_eq_true, decide_eq_true_eq, Bool.false_eq_true, false_iff]); omega

theorem refright_any (s : S) (w : World) : Calls Try.prog 60 #[sv s] w fun e w' => e = .returned (.bool (decide (rightP s))) ∧ Below w.heap.size w w' := by
  obtain ⟨a1, a2⟩ := s
  have HR : Hid (decide (rightP (a1, a2)) = true ↔ (1 ≤ a1 ∧ a1 ≤ 1099511627776 ∧ 0 ≤ a2 ∧ a2 ≤ 7)) := (decide_eq_true_iff : _ ↔ rightP (a1, a2))
  generalize decide (rightP (a1, a2)) = p at HR ⊢
  unfold sv
  go_enter Try.func60, Try.ntmps60
  go_wp2
  all_goals
    go_ret
    refine ⟨ret_bool ?_, balloc (Below.refl _ w) _⟩
    rw [HR.out]
    (try simp only [decide_eq_true_eq, Bool.false_eq_true, false_iff]); omega

theorem refless_any (a b : S) (w : World) : Calls Try.prog 63 #[sv a, sv b] w fun e w' => e = .returned (.bool (decide (ltP a b))) ∧ Below w.heap.size w w' := by
  obtain ⟨a1, a2⟩ := a
  obtain ⟨b1, b2⟩ := b
  have HR : Hid (decide (ltP (a1, a2) (b1, b2)) = true ↔ (a1 < b1 ∨ a1 = b1 ∧ a2 < b2)) := (decide_eq_true_iff : _ ↔ ltP (a1, a2) (b1, b2))
  generalize decide (ltP (a1, a2) (b1, b2)) = p at HR ⊢
  unfold sv
  go_enter Try.func63, Try.ntmps63
  go_wp2
  all_goals
    go_ret
    refine ⟨ret_bool ?_, balloc (balloc (Below.refl _ w) _) _⟩
    rw [HR.out]
    (try simp only [decide_eq_true_eq, true_iff]); omega
end

section
set_option linter.unusedVariables false
open Go.RowKit

theorem Blk.set {w : World} {b : Nat} {e : TypeId} {vs : List Value} (h : Blk w b e vs) (i : Nat) (u : Value) : Blk (w.setCell ⟨b, i, none⟩ u) b e (vs.set i u) := by
  unfold Blk
  rw [heap_setCell_same w b i vs.toArray e u h]
  simp
theorem Blk.drew {w : World} {b : Nat} {e : TypeId} {vs : List Value} (h : Blk w b e vs) : Blk w.drew b e vs := h

theorem grown_drew {w w' : World} {r : Option Nat} (h : w.grownBy w' r) : w.grownBy w'.drew r := ⟨h.os, h.tape, h.output, h.size, h.block⟩
end

section
set_option linter.unusedVariables false
open Go.RowKit

theorem results_cell1 {fn : Func} {p : Tmp} {ty : TypeId} (h : fn.results = #[.cell p ty]) (tmps : Array Value) (P : Program) (w : World) :
    (results fn tmps).run P w = ((asAddr (tmps.getD p undef)).run P w).andThen fun a w₁ => (loadVar ty a).run P w₁ := by
  simp only [results, h]
  simp [Sem.run_bind, Result.andThen]

/-- What taking a stamp makes of a reader. -/
def gotS (l : List Int) (k : Int) : S × List Int × Int :=
  ((zag (rNum l k).1, (rCount (rNum l k).2.1 (rNum l k).2.2 7).1), (rCount (rNum l k).2.1 (rNum l k).2.2 7).2.1, (rCount (rNum l k).2.1 (rNum l k).2.2 7).2.2)

/-- Bytes stay while a stamp's block is written: they lie in no such block. -/
theorem Rd.pastS {w w' : World} {v : Value} {l : List Int} {c : Nat} {e : TypeId} {x y : Int} (h : Rd w v l) (hX : Blk w c e [.int .i64 x, .int .i64 y]) (hg : w.grownBy w' (some c)) : Rd w' v l := by
  obtain ⟨ho, a, cap, rfl, h1, h2, h3, h4⟩ := h
  refine ⟨ho, a, cap, rfl, h1, h2, h3, fun hp => ?_⟩
  obtain ⟨d, off, rfl, hc⟩ := h4 hp
  refine ⟨d, off, rfl, fun j hj => hg.cell (hc j hj) fun e => ?_⟩
  obtain rfl : d = c := by simpa using e
  have hcj := hc j hj
  rcases Nat.lt_trichotomy (off + j) 1 with h | h | h
  · rw [show off + j = 0 by omega, hX.cell 0 _ rfl] at hcj; cases hcj
  · rw [h, hX.cell 1 _ rfl] at hcj; cases hcj
  · have hn : w.cell? ⟨d, off + j, none⟩ = none := by
      unfold Blk at hX
      simp [World.cell?, hX]
      omega
    rw [hn] at hcj
    cases hcj
theorem Rdr.pastS {w w' : World} {b c : Nat} {l : List Int} {k : Int} {e : TypeId} {x y : Int} (h : Rdr w b l k) (hX : Blk w c e [.int .i64 x, .int .i64 y]) (hg : w.grownBy w' (some c)) (hb : b ≠ c) : Rdr w' b l k := by
  obtain ⟨v, hv, hrd⟩ := h.left
  have hbl : w'.heap[b]? = w.heap[b]? := hg.block b (World.block_lt_of_cell? w _ hv) (fun e => hb (Option.some.inj e))
  exact ⟨⟨v, (World.cell?_of_block hbl).trans hv, hrd.pastS hX hg⟩, (World.cell?_of_block hbl).trans h.wrong, (World.frozen?_of_block hbl).trans h.f0, (World.frozen?_of_block hbl).trans h.f1, fun o ho => (World.cell?_of_block hbl).trans (h.two o ho), h.gone⟩
theorem stored {w w1 w2 : World} {b : Nat} {o : Obj} {u0 u1 : Value} (hlt : b < w.heap.size) (hg1 : (w.alloc o).grownBy w1 (some b)) (hg2 : w1.grownBy w2 (some b)) : w.grownBy ((w2.setCell ⟨w.heap.size, 0, none⟩ u0).setCell ⟨w.heap.size, 1, none⟩ u1) (some b) := by
  have h := grown_trans (grown_none (World.grownBy_alloc w o none) hg1) hg2 (fun k hk => .inl hk)
  refine grown_trans (grown_trans h (grown_setCell _ _ _ _) (fun k hk => .inr (by have := Option.some.inj hk; omega))) (grown_setCell _ _ _ _) (fun k hk => .inr (by have := Option.some.inj hk; omega))
end
end

section
set_option linter.unusedVariables false
open Go.RowKit

theorem below_undrew {w w' : World} (h : Below w.drew.heap.size w.drew w') : Below w.heap.size w w' := ⟨h.os, h.tape, h.output, h.size, h.block⟩
/-- A stamp's form. -/
def putS (s : S) : List Int := form (zig s.1) ++ form (max s.2 0).toNat
theorem putS_len (s : S) (hs : SOk s) : (putS s).length ≤ 20 := by
  obtain ⟨⟨h1, h2⟩, h3, h4⟩ := hs
  unfold putS
  rw [List.length_append]
  have e1 := form_le10 (n := zig s.1) (zig_lt s.1 ⟨h1, h2⟩)
  have e2 := form_le10 (n := (max s.2 0).toNat) (by omega)
  omega
end

section
section
set_option linter.unusedVariables false
open Go.RowKit
end
section
section
set_option linter.unusedVariables false
open Go.RowKit
end
section
set_option linter.unusedVariables false
open Go.RowKit
end
section
set_option linter.unusedVariables false
open Go.RowKit
end
end
section
set_option linter.unusedVariables false
open Go.RowKit
end
section
set_option linter.unusedVariables false
open Go.RowKit
end
section
set_option linter.unusedVariables false
open Go.RowKit
end
section
section
set_option linter.unusedVariables false
set_option linter.unusedSimpArgs false
set_option synthInstance.maxSize 20000
set_option maxHeartbeats 2000000
set_option maxRecDepth 20000
open Go.RowKit Go.Maps
theorem eql_slice (t e : TypeId) (hu : Try.prog.underlying t = some (.slice e)) (w : World) (a : Option Addr) (n c : Nat) : (binOp .eql t (.slice a n c) (.slice none 0 0)).run Try.prog w = .ok (.bool a.isNone) w := by
  have key : ∀ d, (Op.equalIn (d + 1) t (.slice a n c) (.slice none 0 0)).run Try.prog w = .ok a.isNone w := fun d => by
    cases a <;> simp [Op.equalIn, run_underlying hu, Result.andThen]
  have e1 : (binOp .eql t (.slice a n c) (.slice none 0 0)).run Try.prog w = ((Op.equalIn (9999 + 1) t (.slice a n c) (.slice none 0 0)).run Try.prog w).andThen fun b w' => .ok (.bool b) w' := by
    simp only [binOp]
    simp [Op.equal, Op.maxDepth]
  rw [e1, key]
  rfl
theorem bclone_any (v : Value) (l : List Int) (w : World) (hv : Rd w v l) (hl : l.length ≤ 1000000) :
    Calls Try.prog 66 #[v] w fun e w' => ∃ v', e = .returned v' ∧ Own w.heap.size 5 w' v' l ∧ Below w.heap.size w w' := by
  have HV : Hid (Rd w v l) := hv
  obtain ⟨hU, a, cap, rfl, h1, h2, h3, h4⟩ := hv
  cases a with
  | none =>
    have hc := h3 rfl
    subst hc
    have hl0 : l = [] := List.eq_nil_of_length_eq_zero (by omega)
    subst hl0
    have hq := eql_slice 33 5 (by kernel_rfl) w none 0 0
    go_enter Try.func66, Try.ntmps66
    go_wp2
    go_ret
    exact ⟨_, rfl, own_nil _ _ w, Below.refl _ _⟩
  | some ad =>
    have hq := eql_slice 33 5 (by kernel_rfl) w (some ad) l.length cap
    have HO : Hid (Own w.heap.size 5 (w.alloc (.cells #[] 5)) (.slice (some ⟨w.heap.size, 0, none⟩) 0 0) []) :=
      ⟨Oct.nil, rfl, .inr ⟨w.heap.size, 0, #[], rfl, Nat.le_refl _, heap_alloc_new w _, Nat.le_refl _, Nat.zero_le _, rfl, rfl⟩⟩
    have HB : Hid (Below w.heap.size w (w.alloc (.cells #[] 5))) := (show Below _ _ _ from balloc (Below.refl _ _) _)
    clear h4
    go_enter Try.func66, Try.ntmps66
    go_wp2_with (at_builtin; go_must (refine wpList_append_cells 33 5 byteTy rfl (.tmp 5) (.tmp 6) rfl w.heap.size _ [] rfl HO.out _ l rfl (HV.out.below HB.out) (by simp; omega) (by simp) ?_; intro v2 w2 hown2 hg2))
    go_ret
    exact ⟨_, rfl, by simpa using hown2, HO.out.below HB.out (Nat.le_refl _) hg2⟩
end
end
end

section
section
set_option linter.unusedVariables false
open Go.RowKit
end
section
set_option linter.unusedVariables false
open Go.RowKit
end
end

section
section
set_option linter.unusedVariables false
set_option linter.unusedSimpArgs false
set_option synthInstance.maxSize 20000
set_option maxHeartbeats 2000000
set_option maxRecDepth 20000
open Go.RowKit Go.Maps

/-- From w to w' only blocks of the owners I were written; new blocks have owners, too. Owner 0: what stays. -/
structure Mv (I : List Nat) (w : World) (o : Nat → Nat) (w' : World) (o' : Nat → Nat) : Prop where
  os : w'.os = w.os
  tape : w'.tape = w.tape
  output : w'.output = w.output
  size : w.heap.size ≤ w'.heap.size
  ext : ∀ k, k < w.heap.size → o' k = o k
  block : ∀ k, k < w.heap.size → o k ∉ I → w'.heap[k]? = w.heap[k]?

/-- New blocks have the owners that f tells. -/
def newBy (o : Nat → Nat) (w : World) (f : Nat → Nat) : Nat → Nat := fun k => if k < w.heap.size then o k else f k
theorem newBy_old {o f : Nat → Nat} {w : World} {k : Nat} (h : k < w.heap.size) : newBy o w f k = o k := if_pos h
theorem newBy_new {o f : Nat → Nat} {w : World} {k : Nat} (h : w.heap.size ≤ k) : newBy o w f k = f k := if_neg (by omega)
/-- New blocks are j's. -/
def newTo (o : Nat → Nat) (w : World) (j : Nat) : Nat → Nat := fun k => if k < w.heap.size then o k else j
theorem newTo_old {o : Nat → Nat} {w : World} {j k : Nat} (h : k < w.heap.size) : newTo o w j k = o k := if_pos h
theorem newTo_new {o : Nat → Nat} {w : World} {j k : Nat} (h : w.heap.size ≤ k) : newTo o w j k = j := if_neg (by omega)

theorem Mv.refl (I : List Nat) (w : World) (o : Nat → Nat) : Mv I w o w o := ⟨rfl, rfl, rfl, Nat.le_refl _, fun _ _ => rfl, fun _ _ _ => rfl⟩
theorem Mv.trans {I : List Nat} {w w1 w2 : World} {o o1 o2 : Nat → Nat} (h : Mv I w o w1 o1) (h1 : Mv I w1 o1 w2 o2) : Mv I w o w2 o2 :=
  ⟨h1.os.trans h.os, h1.tape.trans h.tape, h1.output.trans h.output, Nat.le_trans h.size h1.size, fun k hk => (h1.ext k (Nat.lt_of_lt_of_le hk h.size)).trans (h.ext k hk),
    fun k hk hn => (h1.block k (Nat.lt_of_lt_of_le hk h.size) (by rw [h.ext k hk]; exact hn)).trans (h.block k hk hn)⟩
theorem Mv.widen {I J : List Nat} {w w' : World} {o o' : Nat → Nat} (h : Mv I w o w' o') (hIJ : ∀ i ∈ I, i ∈ J) : Mv J w o w' o' := ⟨h.os, h.tape, h.output, h.size, h.ext, fun k hk hn => h.block k hk (fun e => hn (hIJ _ e))⟩
theorem Mv.of_turn' {I ft : List Nat} {w w' : World} {o : Nat → Nat} (f : Nat → Nat) (h : Turn ft w w') (hf : ∀ k ∈ ft, k < w.heap.size → o k ∈ I) : Mv I w o w' (newBy o w f) :=
  ⟨h.os, h.tape, h.output, h.size, fun k hk => newBy_old hk, fun k hk hn => h.block k hk (fun e => hn (hf k e hk))⟩
theorem Mv.of_turn {I ft : List Nat} {w w' : World} {o : Nat → Nat} (j : Nat) (h : Turn ft w w') (hf : ∀ k ∈ ft, k < w.heap.size → o k ∈ I) : Mv I w o w' (newTo o w j) :=
  ⟨h.os, h.tape, h.output, h.size, fun k hk => newTo_old hk, fun k hk hn => h.block k hk (fun e => hn (hf k e hk))⟩
theorem Mv.of_below {I : List Nat} {w w' : World} {o : Nat → Nat} (j : Nat) (h : Below w.heap.size w w') : Mv I w o w' (newTo o w j) := Mv.of_turn (ft := []) j (Turn.of_below h) (fun k hk => by cases hk)
theorem Mv.below {I : List Nat} {w w' : World} {o o' : Nat → Nat} {B : Nat} (h : Mv I w o w' o') (hB : B ≤ w.heap.size) (hI : ∀ k, k < B → o k ∉ I) : Below B w w' :=
  ⟨h.os, h.tape, h.output, h.size, fun k hk => h.block k (by omega) (hI k hk)⟩

/-- The blocks that may have been written. -/
def wr (I : List Nat) (w : World) (o : Nat → Nat) : List Nat := (List.range w.heap.size).filter (fun k => decide (o k ∈ I))
theorem mem_wr {I : List Nat} {w : World} {o : Nat → Nat} {k : Nat} (h : k ∈ wr I w o) : k < w.heap.size ∧ o k ∈ I := by
  unfold wr at h
  rw [List.mem_filter, List.mem_range] at h
  exact ⟨h.1, of_decide_eq_true h.2⟩
theorem Mv.turn {I : List Nat} {w w' : World} {o o' : Nat → Nat} (h : Mv I w o w' o') : Turn (wr I w o) w w' :=
  ⟨h.os, h.tape, h.output, h.size, fun k hk hn => h.block k hk (fun e => hn (by unfold wr; rw [List.mem_filter, List.mem_range]; exact ⟨hk, decide_eq_true e⟩))⟩

/-- Bytes that are read, and stay. -/
def Kp0 (w : World) (o : Nat → Nat) (v : Value) (l : List Int) : Prop := Rd w v l ∧ (l ≠ [] → ∀ k, v.ownBlock = some k → o k = 0)
theorem kp0_nil (w : World) (o : Nat → Nat) : Kp0 w o (.slice none 0 0) [] := ⟨rd_nil w, fun h => absurd rfl h⟩
theorem Rd.blockLt {w : World} {v : Value} {l : List Int} (h : Rd w v l) (hl : l ≠ []) : ∀ k, v.ownBlock = some k → k < w.heap.size := by
  obtain ⟨ho', a, cap, rfl, h1, h2, h3, h4⟩ := h
  have hp : 0 < l.length := by cases l with
    | nil => exact absurd rfl hl
    | cons x l => simp
  obtain ⟨b, off, rfl, hc⟩ := h4 hp
  intro k hk
  have h9 : b < w.heap.size := World.block_lt_of_cell? w _ (hc 0 hp)
  simp [Value.ownBlock] at hk
  omega
theorem Rd.blocks {w w' : World} {v : Value} {l : List Int} (h : Rd w v l) (hb : l ≠ [] → ∀ k, v.ownBlock = some k → k < w.heap.size → w'.heap[k]? = w.heap[k]?) : Rd w' v l := by
  have hlt := h.blockLt
  obtain ⟨ho', a, cap, rfl, h1, h2, h3, h4⟩ := h
  refine ⟨ho', a, cap, rfl, h1, h2, h3, fun hp => ?_⟩
  have hl : l ≠ [] := fun e => by subst e; simp at hp
  obtain ⟨b, off, rfl, hc⟩ := h4 hp
  refine ⟨b, off, rfl, fun j hj => ?_⟩
  rw [World.cell?_of_block (hb hl b rfl (hlt hl b rfl))]
  exact hc j hj
theorem Kp0.mv {I : List Nat} {w w' : World} {o o' : Nat → Nat} {v : Value} {l : List Int} (h : Kp0 w o v l) (m : Mv I w o w' o') (h0 : 0 ∉ I) : Kp0 w' o' v l := by
  refine ⟨h.1.blocks (fun hl k hk hlt => m.block k hlt (by rw [h.2 hl k hk]; exact h0)), fun hl k hk => ?_⟩
  rw [m.ext k (h.1.blockLt hl k hk)]
  exact h.2 hl k hk
/-- New bytes. -/
theorem Kp0.of_new {w w1 w' : World} {o : Nat → Nat} {v : Value} {l : List Int} {B : Nat} (ho : Own B 5 w' v l) (hB : w.heap.size ≤ B) : Kp0 w' (newTo o w 0) v l :=
  ⟨ho.rd, fun _ k hk => newTo_new (Nat.le_trans hB (ho.2.lt k hk).1)⟩


theorem ownsRow_block {w w' : World} {base : Nat} {e : TypeId} {size : Nat} {v : Value} {n : Nat} {xs : List Value} (h : w.ownsRow base e size v n xs) (hb : ∀ k, v.ownBlock = some k → w'.heap[k]? = w.heap[k]?) : w'.ownsRow base e size v n xs := by
  obtain ⟨h1, h2⟩ := h
  refine ⟨h1, ?_⟩
  rcases h2 with h2 | ⟨g, cap, cur, rfl, h3, h4, h5⟩
  · exact .inl h2
  · exact .inr ⟨g, cap, cur, rfl, h3, by rw [hb g rfl]; exact h4, h5⟩
theorem slice_of_own {w : World} {base : Nat} {e : TypeId} {size : Nat} {v : Value} {n : Nat} {xs : List Value} (h : w.ownsRow base e size v n xs) : ∃ a cap, v = .slice a n cap ∧ n ≤ cap ∧ cap ≤ 9223372036854775807 := by
  rcases h with ⟨h1, ⟨rfl, rfl⟩ | ⟨g, cap, cur, rfl, h3, h4, h5, h6, _⟩⟩
  · exact ⟨none, 0, rfl, Nat.le_refl _, by omega⟩
  · exact ⟨_, cap, rfl, h5, h6⟩
theorem Rd.drew {w : World} {v : Value} {l : List Int} (h : Rd w v l) : Rd w.drew v l := h

theorem run_append_where {P : Program} (w : World) (base : Nat) (t ty e : TypeId) (i : TypeInfo) (z : Value) (size bytes : Nat) (ht : P.underlying t = some (.slice e)) (hi : P.info? e = some i) (hz : i.zero = some z)
    (hsize : i.size = size) (hby : i.bytes = bytes) (hzs : z.cells.size = size) (hsz : 0 < size)
    (v : Value) (n : Nat) (xs : List Value) (hown : w.ownsRow base e size v n xs)
    (a : Addr) (m c : Nat) (news : List Value) (hl : news.length = m * size) (hnews : ∀ j u, news[j]? = some u → w.cell? (a.add j) = some u) (h1 : ∀ u ∈ news, u.oneCell' = true)
    (h63 : n + m ≤ maxLen) (hbytes : (n + m) * bytes ≤ 140737488355328) (hbase : base ≤ w.heap.size) :
    ∃ v' w', (Builtin.append_ #[t, t] ty #[v, .slice (some a) m c]).run P w = .ok v' w' ∧ w'.ownsRow base e size v' (n + m) (xs ++ news) ∧ w.grownBy w' v.ownBlock ∧ (∀ k, v'.ownBlock = some k → v.ownBlock = some k ∨ w.heap.size ≤ k) := by
  obtain ⟨v', w', hr, h2, h3, h4⟩ := run_append_own (P := P) w base t ty e i z size bytes ht hi hz hsize hby hzs hsz v n xs hown a m c news hl hnews h1 h63 hbytes hbase
  refine ⟨v', w', hr, h2, h3, ?_⟩
  subst hsize
  subst hby
  have hsmall : n + m ≤ 9223372036854775807 := by simp only [maxLen] at h63; omega
  rcases hown.2 with ⟨rfl, rfl⟩ | ⟨g, cap, cur, rfl, hbg, hg, hnc, hcm, hcs, htake⟩
  · by_cases hm : m = 0
    · have := h4.2 ⟨rfl, hm⟩
      subst this
      intro k hk
      simp [Value.ownBlock] at hk
    · have hr2 := run_append_nil (P := P) w t ty e i z ht hi hz a m c news hl hnews (by omega) (by omega) (by have hb := hbytes; simp only [Nat.zero_add] at hb; omega)
      rw [hr] at hr2
      cases hr2
      intro k hk
      simp [Value.ownBlock] at hk
      exact .inr (by omega)
  · by_cases hroom : n + m ≤ cap
    · have hfit : n * i.size + news.length ≤ cur.size := by rw [hl, hcs, ← Nat.add_mul]; exact Nat.mul_le_mul_right _ hroom
      have hr2 := run_append_room (P := P) w t ty e i ht hi g n cap cur hg a m c news hl hnews h1 hroom hfit
      rw [hr] at hr2
      cases hr2
      intro k hk
      exact .inl hk
    · have holds : ∀ j u, xs[j]? = some u → w.cell? ((⟨g, 0, none⟩ : Addr).add j) = some u := hown.cells (g := g) rfl
      have hr2 := run_append_grow (P := P) w t ty e i z ht hi hz ⟨g, 0, none⟩ n cap xs hown.1 holds a m c news hl hnews (by omega) (by omega) (growslice_fits (by omega) hbytes)
      rw [hr] at hr2
      cases hr2
      intro k hk
      simp [Value.ownBlock] at hk
      exact .inr (by omega)

theorem Blk.past {w w' : World} {b c : Nat} {e : TypeId} {vs : List Value} (h : Blk w b e vs) (hg : w.grownBy w' (some c)) (hne : b ≠ c) : Blk w' b e vs := h.block (hg.block b h.lt (fun e => hne (Option.some.inj e)))
theorem Blk.past' {w w' : World} {b : Nat} {e : TypeId} {vs : List Value} {r : Option Nat} (h : Blk w b e vs) (hg : w.grownBy w' r) (hne : r ≠ some b) : Blk w' b e vs := h.block (hg.block b h.lt (fun e => hne e.symm))
theorem turn_grown {w w' : World} {r : Option Nat} (h : w.grownBy w' r) : Turn r.toList w w' := ⟨h.os, h.tape, h.output, h.size, fun k hk hn => h.block k hk (fun e => hn (by rw [← e]; simp))⟩

/-- An owner that has no block yet. -/
theorem fresh_owner (w : World) (o : Nat → Nat) (j : Nat) : ∃ c, 1 < c ∧ j < c ∧ ∀ k, k < w.heap.size → o k ≠ c := by
  have key : ∀ n : Nat, ∃ c, 1 < c ∧ j < c ∧ ∀ k, k < n → o k < c := by
    intro n
    induction n with
    | zero => exact ⟨j + 2, by omega, by omega, fun k hk => by omega⟩
    | succ n ih =>
      obtain ⟨c, h1, h2, h3⟩ := ih
      refine ⟨max c (o n + 1), by omega, by omega, fun k hk => ?_⟩
      by_cases e : k = n
      · subst e; omega
      · have := h3 k (by omega); omega
  obtain ⟨c, h1, h2, h3⟩ := key w.heap.size
  exact ⟨c, h1, h2, fun k hk e => by have := h3 k hk; omega⟩
theorem Mv.restrict {I : List Nat} {c : Nat} {w w' : World} {o o' : Nat → Nat} (h : Mv (c :: I) w o w' o') (hc : ∀ k, k < w.heap.size → o k ≠ c) : Mv I w o w' o' :=
  ⟨h.os, h.tape, h.output, h.size, h.ext, fun k hk hn => h.block k hk (fun e => by
    rcases List.mem_cons.1 e with r | r
    · exact hc k hk r
    · exact hn r)⟩
theorem own_past {B : Nat} {e : TypeId} {w w' : World} {v : Value} {l : List Int} {c : Nat} (h : Own B e w v l) (hc : c < B) (hg : w.grownBy w' (some c)) : Own B e w' v l :=
  ⟨h.1, ownsRow_block h.2 (fun k hk => hg.block k (h.2.lt k hk).2 (fun e => by have := (h.2.lt k hk).1; have := Option.some.inj e; omega))⟩


end
end
end Go.Proofs.Ytjlpdoomchkfgaa
