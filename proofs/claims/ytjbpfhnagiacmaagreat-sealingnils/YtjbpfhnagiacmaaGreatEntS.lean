/-
  EntS: grafted.
-/
import Derived.Test.YtjbpfhnagiacmaaGreatPut
import Derived.Test.YtjbpfhnagiacmaaGreatChain
import Derived.Test.YtjbpfhnagiacmaaGreatRef
import Derived.Test.YtjbpfhnagiacmaaGreatRowsF
import Derived.Test.YtjbpfhnagiacmaaGreatRep
import Derived.Test.YtjbpfhnagiacmaaGreatSeal
import Derived.Deep.RegionWith
import Derived.Deep.DeepCutAuto
import Derived.BigQuiet
import Derived.Laws.ResultCell
namespace Go.Proofs.YtjbpfhnagiacmaaGreat
section
section
set_option linter.unusedVariables false
open Go.RowKit
set_option maxHeartbeats 400000 in
theorem int_any (v : Value) (l : List Int) (m : Int) (w : World) (hv : Rd w v l) (hl : l.length ≤ 1000000000) (hm : -9223372036854775808 ≤ m ∧ m ≤ 9223372036854775807) :
    Calls Tryz.prog 137 #[v, .int .i64 m] w fun e w' => ∃ v', e = .returned v' ∧ Own w.heap.size 5 w' v' (l ++ form (zig m)) ∧ Below w.heap.size w w' := by
  have HZ : Hid (zig m < 18446744073709551616) := zig_lt m hm
  by_cases h : m < 0
  · go_enter Tryz.func137, Tryz.ntmps137
    go_wp2_with (go_at_call 90; go_must (rw [neg_zig m h hm]; refine (num_any _ l (zig m) _ hv hl HZ.out).mono ?_; rintro e w2 ⟨v2, rfl, hown2, hb2⟩))
    go_ret
    exact ⟨_, rfl, hown2, hb2⟩
  · have hz : ((zig m : Nat) : Int) = 2 * m := by unfold zig; rw [if_neg h]; omega
    have HH : Hid (((zig m : Nat) : Int) = 2 * m) := hz
    clear hz
    go_enter Tryz.func137, Tryz.ntmps137
    go_wp2_with (go_at_call 90; go_must (rw [show m * 2 = ((zig m : Nat) : Int) from by have := HH.out; omega]; refine (num_any _ l (zig m) _ hv hl HZ.out).mono ?_; rintro e w2 ⟨v2, rfl, hown2, hb2⟩))
    go_ret
    exact ⟨_, rfl, hown2, hb2⟩
end
end
section
section
set_option linter.unusedVariables false
open Go.RowKit
set_option maxHeartbeats 400000 in
theorem refint_any (m : Int) (w : World) (hm : -9223372036854775808 ≤ m ∧ m ≤ 9223372036854775807) :
    Calls Tryz.prog 80 #[.int .i64 m] w fun e w' => ∃ v', e = .returned v' ∧ Own w.heap.size 5 w' v' (form (zig m)) ∧ Below w.heap.size w w' := by
  have C := fun w => refnum (zig m) w (zig_lt m hm)
  by_cases h : m < 0
  · have HC : Hid (∀ w : World, Calls Tryz.prog 60 #[.int .u64 (-(m + 1) * 2 + 1)] w fun e w' => ∃ v', e = .returned v' ∧ Own w.heap.size 5 w' v' (form (zig m)) ∧ Below w.heap.size w w') := by
      intro w
      have := C w
      rwa [show ((zig m : Nat) : Int) = -(m + 1) * 2 + 1 by unfold zig; rw [if_pos h]; omega] at this
    clear C
    go_enter Tryz.func80, Tryz.ntmps80
    go_wp2_with (go_at_call 60; go_must (refine (HC.out _).mono ?_; rintro e w2 ⟨v2, rfl, hown2, hb2⟩))
    go_ret
    exact ⟨_, rfl, hown2, hb2⟩
  · have HC : Hid (∀ w : World, Calls Tryz.prog 60 #[.int .u64 (m * 2)] w fun e w' => ∃ v', e = .returned v' ∧ Own w.heap.size 5 w' v' (form (zig m)) ∧ Below w.heap.size w w') := by
      intro w
      have := C w
      rwa [show ((zig m : Nat) : Int) = m * 2 by unfold zig; rw [if_neg h]; omega] at this
    clear C
    go_enter Tryz.func80, Tryz.ntmps80
    go_wp2_with (go_at_call 60; go_must (refine (HC.out _).mono ?_; rintro e w2 ⟨v2, rfl, hown2, hb2⟩))
    go_ret
    exact ⟨_, rfl, hown2, hb2⟩
end
section
set_option linter.unusedVariables false
set_option synthInstance.maxSize 20000
/-! ### fresh handles -/
/-! ### the calls -/
/-! ### what each call answers -/
end
end
section
section
set_option linter.unusedVariables false
open Go.RowKit
theorem writer_any (x : Int) (w : World) : Calls Tryz.prog 135 #[.int .i64 x] w fun e w' => e = .returned (.bool (decide (0 ≤ x ∧ x ≤ 7))) ∧ w' = w := by
  go_enter Tryz.func135, Tryz.ntmps135
  go_wp2
  all_goals
    go_ret
    refine ⟨ret_bool ?_, rfl⟩
    (try simp only [Bool.and_eq_true, decide_eq_true_eq, Bool.false_eq_true, false_iff]); omega
theorem right_any (s : S) (w : World) : Calls Tryz.prog 114 #[sv s] w fun e w' => e = .returned (.bool (decide (rightP s))) ∧ Below w.heap.size w w' := by
  obtain ⟨a1, a2⟩ := s
  have HR : Hid (decide (rightP (a1, a2)) = true ↔ (1 ≤ a1 ∧ a1 ≤ 1099511627776 ∧ 0 ≤ a2 ∧ a2 ≤ 7)) := (decide_eq_true_iff : _ ↔ rightP (a1, a2))
  generalize decide (rightP (a1, a2)) = p at HR ⊢
  unfold sv
  go_enter Tryz.func114, Tryz.ntmps114
  go_wp2_with (go_at_call 135; refine (writer_any _ _).mono ?_; rintro e w1 ⟨rfl, rfl⟩)
  all_goals
    go_ret
    refine ⟨ret_bool ?_, balloc (Below.refl _ w) _⟩
    rw [HR.out]
    (try simp only [Bool.and_eq_true, decide_eq_true_eq, Bool.false_eq_true, false_iff]); omega
theorem refright_any (s : S) (w : World) : Calls Tryz.prog 85 #[sv s] w fun e w' => e = .returned (.bool (decide (rightP s))) ∧ Below w.heap.size w w' := by
  obtain ⟨a1, a2⟩ := s
  have HR : Hid (decide (rightP (a1, a2)) = true ↔ (1 ≤ a1 ∧ a1 ≤ 1099511627776 ∧ 0 ≤ a2 ∧ a2 ≤ 7)) := (decide_eq_true_iff : _ ↔ rightP (a1, a2))
  generalize decide (rightP (a1, a2)) = p at HR ⊢
  unfold sv
  go_enter Tryz.func85, Tryz.ntmps85
  go_wp2
  all_goals
    go_ret
    refine ⟨ret_bool ?_, balloc (Below.refl _ w) _⟩
    rw [HR.out]
    (try simp only [decide_eq_true_eq, Bool.false_eq_true, false_iff]); omega
end
end
section
set_option linter.unusedVariables false
set_option linter.unusedSimpArgs false
set_option synthInstance.maxSize 20000
open Go.RowKit
structure Ent where
  w : Int
  i : Int
  p : Int
  t : Int
  u : Int
  n : Int
  b : List Int
  g : Int
def ev (e : Ent) (v : Value) : Value := .agg #[.int .i64 e.w, .int .i64 e.i, .int .u64 e.p, .int .i64 e.t, .int .i64 e.u, .int .i64 e.n, v, .int .u64 e.g]
abbrev rightE (e : Ent) : Prop := (0 ≤ e.w ∧ e.w ≤ 7) ∧ (0 ≤ e.i ∧ e.i ≤ 199) ∧ (e.p = 0 ↔ e.i = 0) ∧ rightP (e.t, e.u) ∧ e.u = e.w ∧ (-1 ≤ e.n ∧ e.n ≤ 19) ∧ e.b.length ≤ 1100
def eRight (e : Ent) : Bool := decide (rightE e)
theorem eRight_iff (e : Ent) : eRight e = true ↔ rightE e := decide_eq_true_iff
def boundL (w i n : Int) : List Int := form w.toNat ++ form i.toNat ++ form (zig n)
theorem rNum_form {n : Nat} (hn : n < 18446744073709551616) (r : List Int) (k : Int) : rNum (form n ++ r) k = (n, r, k) := by
  unfold rNum
  rw [parse_form n 0 r (by omega) (by omega) (.inl rfl)]
theorem bound_inj {w i n x y z : Int} (hw : I64 w) (hi : I64 i) (hn : I64 n) (hx : I64 x) (hy : I64 y) (hz : I64 z) : decide (boundL w i n = boundL x y z) = decide (max w 0 = max x 0 ∧ max i 0 = max y 0 ∧ n = z) := by
  unfold I64 at *
  apply decide_eq_decide.2
  constructor
  · intro h
    unfold boundL at h
    rw [List.append_assoc, List.append_assoc] at h
    have h1 := congrArg (fun q => rNum q 0) h
    rw [rNum_form (by omega), rNum_form (by omega)] at h1
    simp only [Prod.mk.injEq, and_true] at h1
    have h2 := congrArg (fun q => rNum q 0) h1.2
    rw [rNum_form (by omega), rNum_form (by omega)] at h2
    simp only [Prod.mk.injEq, and_true] at h2
    have h3 := congrArg (fun q => rNum (q ++ []) 0) h2.2
    rw [rNum_form (zig_lt n (by omega)), rNum_form (zig_lt z (by omega))] at h3
    simp only [Prod.mk.injEq, and_true] at h3
    have h4 := congrArg zag h3
    rw [zag_zig, zag_zig] at h4
    exact ⟨by omega, by omega, h4⟩
  · rintro ⟨h1, h2, rfl⟩
    unfold boundL
    rw [show w.toNat = x.toNat by omega, show i.toNat = y.toNat by omega]
end
section
set_option linter.unusedVariables false
set_option linter.unusedSimpArgs false
set_option synthInstance.maxSize 20000
open Go.RowKit
set_option maxHeartbeats 1000000
set_option maxRecDepth 20000
theorem within_any (x a b : Int) (w : World) : Calls Tryz.prog 83 #[.int .i64 x, .int .i64 a, .int .i64 b] w fun e w' => e = .returned (.bool (decide (a ≤ x ∧ x ≤ b))) ∧ w' = w := by
  go_enter Tryz.func83, Tryz.ntmps83
  go_wp2
  all_goals
    go_ret
    refine ⟨ret_bool ?_, rfl⟩
    (try simp only [Bool.and_eq_true, decide_eq_true_eq, Bool.false_eq_true, false_iff]); omega
set_option maxHeartbeats 1000000 in
set_option maxRecDepth 20000 in
theorem beqq (x y : Int) : ((x == 0) == (y == 0)) = true ↔ (x = 0 ↔ y = 0) := by
  rw [beq_iff_eq, Bool.eq_iff_iff, beq_iff_eq, beq_iff_eq]
theorem placed_any (e : Ent) (v : Value) (w : World) (hv : Rd w v e.b) : Calls Tryz.prog 81 #[ev e v] w fun r w' => r = .returned (.bool (decide ((0 ≤ e.w ∧ e.w ≤ 7) ∧ (0 ≤ e.i ∧ e.i ≤ 199) ∧ (e.p = 0 ↔ e.i = 0)))) ∧ Below w.heap.size w w' := by
  obtain ⟨a, cap, rfl⟩ := hv.len
  obtain ⟨ew, ei, ep, et, eu, en, eb, eg⟩ := e
  unfold ev
  dsimp only
  clear hv
  generalize eb.length = n
  have HR : Hid (decide ((0 ≤ ew ∧ ew ≤ 7) ∧ (0 ≤ ei ∧ ei ≤ 199) ∧ (ep = 0 ↔ ei = 0)) = true ↔ ((0 ≤ ew ∧ ew ≤ 7) ∧ (0 ≤ ei ∧ ei ≤ 199) ∧ (ep = 0 ↔ ei = 0))) := (decide_eq_true_iff : _ ↔ _)
  generalize decide ((0 ≤ ew ∧ ew ≤ 7) ∧ (0 ≤ ei ∧ ei ≤ 199) ∧ (ep = 0 ↔ ei = 0)) = p at HR ⊢
  go_enter Tryz.func81, Tryz.ntmps81
  go_wp2_with (go_at_call 83; go_must (refine (within_any _ _ _ _).mono ?_; rintro r w1 ⟨rfl, rfl⟩))
  all_goals
    go_ret
    refine ⟨ret_bool ?_, balloc (Below.refl _ w) _⟩
    rw [HR.out]
    (try rw [beqq]); (try simp only [Bool.false_eq_true, false_iff]); omega
theorem stamped_any (e : Ent) (v : Value) (w : World) (hv : Rd w v e.b) : Calls Tryz.prog 82 #[ev e v] w fun r w' => r = .returned (.bool (decide (rightP (e.t, e.u) ∧ e.u = e.w))) ∧ Below w.heap.size w w' := by
  obtain ⟨a, cap, rfl⟩ := hv.len
  obtain ⟨ew, ei, ep, et, eu, en, eb, eg⟩ := e
  unfold ev
  dsimp only
  clear hv
  generalize eb.length = n
  have HR : Hid (decide (rightP (et, eu) ∧ eu = ew) = true ↔ (rightP (et, eu) ∧ eu = ew)) := (decide_eq_true_iff : _ ↔ _)
  generalize decide (rightP (et, eu) ∧ eu = ew) = p at HR ⊢
  have HQ : Hid (decide (rightP (et, eu)) = true ↔ rightP (et, eu)) := (decide_eq_true_iff : _ ↔ _)
  have C := fun w' => right_any (et, eu) w'
  generalize decide (rightP (et, eu)) = q at HQ C
  generalize rightP (et, eu) = Q at HR HQ
  unfold sv at C
  have HC : Hid (∀ w', Calls Tryz.prog 114 #[.agg #[.int .i64 et, .int .i64 eu]] w' fun r w'' => r = .returned (.bool q) ∧ Below w'.heap.size w' w'') := C
  clear C
  by_cases hu : eu = ew
  · subst hu
    cases q
    all_goals
      go_enter Tryz.func82, Tryz.ntmps82
      go_wp2_with (go_at_call 114; go_must (refine (HC.out _).mono ?_; rintro r w2 ⟨rfl, hb⟩; have X := ((blk_new w [.int .i64 eu, .int .i64 ei, .int .u64 ep, .int .i64 et, .int .i64 eu, .int .i64 en, .slice a n cap, .int .u64 eg] 30).below hb); have x0 := X.cell 0 _ rfl; have x4 := X.cell 4 _ rfl))
      go_ret
      refine ⟨ret_bool ?_, bnext (balloc (Below.refl _ w) _) hb⟩
      rw [HR.out, ← HQ.out]
      simp
  · have hu' : (eu == ew) = false := by simpa using hu
    have HU : Hid (¬ eu = ew) := hu
    clear hu
    cases q
    all_goals
      go_enter Tryz.func82, Tryz.ntmps82
      go_wp2_with (go_at_call 114; go_must (refine (HC.out _).mono ?_; rintro r w2 ⟨rfl, hb⟩; have X := ((blk_new w [.int .i64 ew, .int .i64 ei, .int .u64 ep, .int .i64 et, .int .i64 eu, .int .i64 en, .slice a n cap, .int .u64 eg] 30).below hb); have x0 := X.cell 0 _ rfl; have x4 := X.cell 4 _ rfl))
      go_ret
      refine ⟨ret_bool ?_, bnext (balloc (Below.refl _ w) _) hb⟩
      rw [HR.out, ← HQ.out]
      simp [HU.out]
theorem eRight_parts (e : Ent) : eRight e = (decide ((0 ≤ e.w ∧ e.w ≤ 7) ∧ (0 ≤ e.i ∧ e.i ≤ 199) ∧ (e.p = 0 ↔ e.i = 0)) && decide (rightP (e.t, e.u) ∧ e.u = e.w) && decide (-1 ≤ e.n ∧ e.n ≤ 19) && decide (e.b.length ≤ 1100)) := by
  rw [Bool.eq_iff_iff, eRight_iff]
  simp only [Bool.and_eq_true, decide_eq_true_eq]
  constructor
  · rintro ⟨h1, h2, h3, h4, h5, h6, h7⟩
    exact ⟨⟨⟨⟨h1, h2, h3⟩, h4, h5⟩, h6⟩, h7⟩
  · rintro ⟨⟨⟨⟨h1, h2, h3⟩, h4, h5⟩, h6⟩, h7⟩
    exact ⟨h1, h2, h3, h4, h5, h6, h7⟩
set_option maxHeartbeats 1000000 in
set_option maxRecDepth 20000 in
theorem rightE_any (e : Ent) (v : Value) (w : World) (hv : Rd w v e.b) : Calls Tryz.prog 39 #[ev e v] w fun r w' => r = .returned (.bool (eRight e)) ∧ Below w.heap.size w w' := by
  rw [eRight_parts]
  have HV : Hid (Rd w v e.b) := hv
  have P1 := fun w' (h : Rd w' v e.b) => placed_any e v w' h
  have P2 := fun w' (h : Rd w' v e.b) => stamped_any e v w' h
  have hcap : e.b.length ≤ 9223372036854775807 := by obtain ⟨a, cap, rfl⟩ := hv.len; have := hv.cap; omega
  obtain ⟨a, cap, rfl⟩ := hv.len
  obtain ⟨ew, ei, ep, et, eu, en, eb, eg⟩ := e
  unfold ev at *
  dsimp only at *
  generalize decide ((0 ≤ ew ∧ ew ≤ 7) ∧ (0 ≤ ei ∧ ei ≤ 199) ∧ (ep = 0 ↔ ei = 0)) = p at P1 ⊢
  generalize decide (rightP (et, eu) ∧ eu = ew) = q at P2 ⊢
  have H1 : Hid (∀ w', Rd w' (.slice a eb.length cap) eb → Calls Tryz.prog 81 #[.agg #[.int .i64 ew, .int .i64 ei, .int .u64 ep, .int .i64 et, .int .i64 eu, .int .i64 en, .slice a eb.length cap, .int .u64 eg]] w' fun r w'' => r = .returned (.bool p) ∧ Below w'.heap.size w' w'') := P1
  have H2 : Hid (∀ w', Rd w' (.slice a eb.length cap) eb → Calls Tryz.prog 82 #[.agg #[.int .i64 ew, .int .i64 ei, .int .u64 ep, .int .i64 et, .int .i64 eu, .int .i64 en, .slice a eb.length cap, .int .u64 eg]] w' fun r w'' => r = .returned (.bool q) ∧ Below w'.heap.size w' w'') := P2
  have HX : Hid (∀ w', Below (w.alloc (.cells #[.int .i64 ew, .int .i64 ei, .int .u64 ep, .int .i64 et, .int .i64 eu, .int .i64 en, .slice a eb.length cap, .int .u64 eg] 30)).heap.size (w.alloc (.cells #[.int .i64 ew, .int .i64 ei, .int .u64 ep, .int .i64 et, .int .i64 eu, .int .i64 en, .slice a eb.length cap, .int .u64 eg] 30)) w' → Blk w' w.heap.size 30 [.int .i64 ew, .int .i64 ei, .int .u64 ep, .int .i64 et, .int .i64 eu, .int .i64 en, .slice a eb.length cap, .int .u64 eg]) := fun w' h => (blk_new w [.int .i64 ew, .int .i64 ei, .int .u64 ep, .int .i64 et, .int .i64 eu, .int .i64 en, .slice a eb.length cap, .int .u64 eg] 30).below h
  have HB0 : Hid (Below w.heap.size w (w.alloc (.cells #[.int .i64 ew, .int .i64 ei, .int .u64 ep, .int .i64 et, .int .i64 eu, .int .i64 en, .slice a eb.length cap, .int .u64 eg] 30))) := by show Below _ _ _; exact balloc (Below.refl _ _) _
  clear P1 P2 hv
  cases p
  · go_enter Tryz.func39, Tryz.ntmps39
    go_wp2_with (go_at_call 81; go_must (refine (H1.out _ (HV.out.below HB0.out)).mono ?_; rintro r w1 ⟨rfl, hb1⟩))
    go_ret
    exact ⟨rfl, bnext HB0.out hb1⟩
  · cases q
    · go_enter Tryz.func39, Tryz.ntmps39
      go_wp2_with (first
        | (go_at_call 81; go_must (refine (H1.out _ (HV.out.below HB0.out)).mono ?_; rintro r w1 ⟨rfl, hb1⟩; have X := HX.out _ hb1; have x0 := X.cell 0 _ rfl; have x1 := X.cell 1 _ rfl; have x2 := X.cell 2 _ rfl; have x3 := X.cell 3 _ rfl; have x4 := X.cell 4 _ rfl; have x5 := X.cell 5 _ rfl; have x6 := X.cell 6 _ rfl; have x7 := X.cell 7 _ rfl))
        | (go_at_call 82; go_must (refine (H2.out _ (HV.out.below (bnext HB0.out hb1))).mono ?_; rintro r w2 ⟨rfl, hb2⟩)))
      go_ret
      exact ⟨rfl, bnext (bnext HB0.out hb1) hb2⟩
    · go_enter Tryz.func39, Tryz.ntmps39
      go_wp2_with (first
        | (go_at_call 81; go_must (refine (H1.out _ (HV.out.below HB0.out)).mono ?_; rintro r w1 ⟨rfl, hb1⟩; have X := HX.out _ hb1; have x0 := X.cell 0 _ rfl; have x1 := X.cell 1 _ rfl; have x2 := X.cell 2 _ rfl; have x3 := X.cell 3 _ rfl; have x4 := X.cell 4 _ rfl; have x5 := X.cell 5 _ rfl; have x6 := X.cell 6 _ rfl; have x7 := X.cell 7 _ rfl))
        | (go_at_call 82; go_must (refine (H2.out _ (HV.out.below (bnext HB0.out hb1))).mono ?_; rintro r w2 ⟨rfl, hb2⟩; have Y := HX.out _ (bnext hb1 hb2); have y5 := Y.cell 5 _ rfl; have y6 := Y.cell 6 _ rfl))
        | (go_at_call 83; go_must (refine (within_any _ _ _ _).mono ?_; rintro r w3 ⟨rfl, hw3⟩; replace hw3 := hw3.symm; subst hw3)))
      all_goals
        go_ret
        refine ⟨ret_bool ?_, bnext (bnext HB0.out hb1) hb2⟩
        (try simp only [Bool.and_eq_true, decide_eq_true_eq, Bool.false_eq_true, false_iff, Bool.true_and, Bool.and_true]); try omega
end
section
section
set_option linter.unusedVariables false
set_option linter.unusedSimpArgs false
set_option synthInstance.maxSize 20000
set_option maxHeartbeats 1000000
set_option maxRecDepth 20000
open Go.RowKit Go.Maps
theorem count_any (n : Int) (w : World) (hn : I64 n) : Calls Tryz.prog 133 #[.int .i64 n] w fun e w' => e = .returned (.int .u64 (n.toNat : Int)) ∧ w' = w := by
  obtain ⟨h1, h2⟩ := hn
  obtain ⟨N, hN⟩ : ∃ N : Nat, n.toNat = N := ⟨_, rfl⟩
  rw [hN]
  by_cases h : n < 0
  · have HN : Hid ((N : Int) = 0) := by show _ = _; omega
    clear hN
    go_enter Tryz.func133, Tryz.ntmps133
    go_wp2
    go_ret
    exact ⟨by rw [HN.out]; rfl, rfl⟩
  · have HN : Hid ((N : Int) = n) := by show _ = _; omega
    clear hN
    go_enter Tryz.func133, Tryz.ntmps133
    go_wp2
    go_ret
    exact ⟨by rw [HN.out]; rfl, rfl⟩
def Fld (w : World) (b : Nat) (l : List Int) : Prop := ∃ v, Blk w b 169 [v] ∧ Own (b + 1) 5 w v l
theorem Fld.lt {w : World} {b : Nat} {l : List Int} (h : Fld w b l) : b < w.heap.size := h.choose_spec.1.lt
theorem Fld.below {w w' : World} {b : Nat} {l : List Int} (h : Fld w b l) (hb : Below w.heap.size w w') : Fld w' b l := by
  obtain ⟨v, h1, h2⟩ := h
  exact ⟨v, h1.below hb, h2.kept (below_grown hb)⟩
theorem Fld.put {w w2 : World} {b : Nat} {l l' : List Int} {v' : Value} (h : Fld w b l) (hb : Below w.heap.size w w2) (ho : Own w.heap.size 5 w2 v' l') : Fld (w2.setCell ⟨b, 0, none⟩ v') b l' ∧ w.grownBy (w2.setCell ⟨b, 0, none⟩ v') (some b) := by
  obtain ⟨v, h1, h2⟩ := h
  have hlt := h1.lt
  refine ⟨⟨v', (h1.below hb).set 0 v', ?_⟩, grown_none (below_grown hb) (grown_setCell _ _ _ _)⟩
  refine Own.lower (B := w.heap.size) (show Own w.heap.size 5 (w2.setCell ⟨b, 0, none⟩ v') v' l' from ⟨ho.1, ho.2.kept (grown_setCell _ _ _ _) ?_⟩) (by omega)
  cases hk : v'.ownBlock with
  | none => exact .inl rfl
  | some k =>
    refine .inr fun e => ?_
    have := (ho.2.lt k hk).1
    have := Option.some.inj e
    omega
theorem fld_new (w : World) : Fld (w.alloc (.cells #[.slice none 0 0] 169)) w.heap.size [] := ⟨.slice none 0 0, blk_new w [.slice none 0 0] 169, own_nil _ _ _⟩
theorem Fld.rd {w : World} {b : Nat} {l : List Int} (h : Fld w b l) : ∃ v, Blk w b 169 [v] ∧ Own (b + 1) 5 w v l ∧ ∃ a cap, v = .slice a l.length cap := by
  obtain ⟨v, h1, h2⟩ := h
  obtain ⟨a, cap, e⟩ := h2.rd.len
  exact ⟨v, h1, h2, a, cap, e⟩
def formsL (ns : List Int) : List Int := ns.flatMap fun x => form x.toNat
theorem formsL_len {ns : List Int} (h : ∀ x ∈ ns, U64 x) : (formsL ns).length ≤ 10 * ns.length := by
  unfold formsL
  induction ns with
  | nil => simp
  | cons x l ih =>
    rw [List.flatMap_cons, List.length_append, List.length_cons]
    have h1 := ih (fun y hy => h y (List.mem_cons_of_mem _ hy))
    have h2 := h x List.mem_cons_self
    unfold U64 at h2
    have h3 := form_le10 (n := x.toNat) (by omega)
    omega
theorem nums_any (w : World) (b : Nat) (l : List Int) (vs : Value) (ns : List Int) (h : Fld w b l) (hv : RdU w vs ns) (hl : l.length ≤ 100000) (hn : ns.length ≤ 100) (hout : Out [b] vs) :
    Calls Tryz.prog 132 #[ptr b, vs] w fun e w' => e = .returned (.tuple #[]) ∧ Fld w' b (l ++ formsL ns) ∧ w.grownBy w' (some b) := by
  have HV : Hid (RdU w vs ns) := hv
  have HO : Hid (Out [b] vs) := hout
  have HF : Hid (Fld w b l) := h
  have HU : Hid (∀ x ∈ ns, U64 x) := hv.1
  obtain ⟨hu, va, vc, rfl, hc1, hc2, hc3, hc4⟩ := hv
  unfold maxLen at hc2
  clear h hout hu hc3 hc4
  go_enter Tryz.func132, Tryz.ntmps132
  go_wp2
  go_loopw [8] (fun i wr => ∃ j : Nat, i = .int .i64 j ∧ j ≤ ns.length ∧ Hid (Fld wr b (l ++ formsL (ns.take j))) ∧ Hid (w.grownBy wr (some b))) (fun i _ => ns.length - (intOf i).toNat)
  case atStart => exact ⟨0, rfl, Nat.zero_le _, (by show Fld _ _ _; simpa [formsL] using HF.out), grown_refl _ _⟩
  case round =>
    obtain ⟨j, rfl, hj, HFr, HGr⟩ := hrel
    by_cases hlt : j < ns.length
    · obtain ⟨hu, va', vc', e, _, _, _, hc4⟩ := HV.out.turn (Turn.of_grown (ft := [b]) HGr.out (by simp)) HO.out
      obtain ⟨rfl, rfl⟩ : va = va' ∧ vc = vc' := by simpa using e
      obtain ⟨d, off, rfl, hc⟩ := hc4 (by omega)
      have cj := hc j hlt
      have hx : U64 (ns.getD j 0) := hu _ (by rw [List.getD_eq_getElem?_getD, List.getElem?_eq_getElem hlt]; exact List.getElem_mem hlt)
      have ht : formsL (ns.take (j + 1)) = formsL (ns.take j) ++ form (ns.getD j 0).toNat := by
        rw [List.take_succ_eq_append_getElem hlt]
        unfold formsL
        rw [List.flatMap_append, List.getD_eq_getElem?_getD, List.getElem?_eq_getElem hlt]
        simp
      obtain ⟨N, hN⟩ : ∃ N : Nat, ns.getD j 0 = (N : Int) := ⟨(ns.getD j 0).toNat, by unfold U64 at hx; omega⟩
      rw [hN] at cj hx ht
      have HN : Hid (N < 18446744073709551616) := by show _ < _; unfold U64 at hx; omega
      have HT : Hid (formsL (ns.take (j + 1)) = formsL (ns.take j) ++ form N) := by show _ = _; rw [ht, Int.toNat_natCast]
      have HLen : Hid ((l ++ formsL (ns.take j)).length ≤ 110000) := by
        show _ ≤ _
        have := formsL_len (ns := ns.take j) (fun x hx => HU.out x (List.mem_of_mem_take hx))
        rw [List.length_append]
        rw [List.length_take] at this
        omega
      obtain ⟨v, X, own, a, cap, rfl⟩ := HFr.out.rd
      have x0 := X.cell 0 _ rfl
      have HOwn : Hid (Own (b + 1) 5 wr (.slice a (l ++ formsL (ns.take j)).length cap) (l ++ formsL (ns.take j))) := own
      have HX : Hid (Blk wr b 169 [.slice a (l ++ formsL (ns.take j)).length cap]) := X
      generalize hL : l ++ formsL (ns.take j) = L at *
      have HL : Hid (l ++ formsL (ns.take j) = L) := hL
      clear hL hN hx ht hc hc4 hu own X e
      go_wp2_with (go_at_call 90; go_must (refine (num_any _ L N wr HOwn.out.rd (by have := HLen.out; omega) HN.out).mono ?_; rintro e w2 ⟨v2, rfl, hown2, hb2⟩; obtain ⟨a2, c2, rfl⟩ := hown2.rd.len; rw [List.length_append] at hown2; have X2 := HX.out.below hb2; have y0 := X2.cell 0 _ rfl; have f0 := X2.frozen 0))
      go_roundw
      case rel =>
        have hp := HFr.out.put hb2 hown2
        exact ⟨j + 1, by go_num, by omega, (by show Fld _ _ _; rw [HT.out, ← List.append_assoc, HL.out]; exact hp.1), grown_trans HGr.out hp.2 (fun k hk => .inl hk)⟩
      case measure => simp [intOf]; omega
    · have HE : Hid (ns.take j = ns) := List.take_of_length_le (by omega)
      go_wp2
      go_end0
      exact ⟨rfl, by have := HFr.out; rwa [HE.out] at this, HGr.out⟩
theorem epoch_any (w : World) (b : Nat) (l : List Int) (n : Int) (h : Fld w b l) (hl : l.length ≤ 1000000) (hn : I64 n) :
    Calls Tryz.prog 134 #[ptr b, .int .i64 n] w fun e w' => e = .returned (.tuple #[]) ∧ Fld w' b (l ++ form (zig n)) ∧ w.grownBy w' (some b) := by
  have HF : Hid (Fld w b l) := h
  have HN : Hid (I64 n) := hn
  obtain ⟨v, X, own, a, cap, rfl⟩ := h.rd
  have x0 := X.cell 0 _ rfl
  have HOwn : Hid (Own (b + 1) 5 w (.slice a l.length cap) l) := own
  have HX : Hid (Blk w b 169 [.slice a l.length cap]) := X
  clear h X own hn
  go_enter Tryz.func134, Tryz.ntmps134
  go_wp2_with (go_at_call 137; go_must (refine (int_any _ l n w HOwn.out.rd (by omega) HN.out).mono ?_; rintro e w2 ⟨v2, rfl, hown2, hb2⟩; obtain ⟨a2, c2, rfl⟩ := hown2.rd.len; rw [List.length_append] at hown2; have X2 := HX.out.below hb2; have y0 := X2.cell 0 _ rfl; have f0 := X2.frozen 0))
  go_end0
  exact ⟨rfl, HF.out.put hb2 hown2⟩
end
section
set_option linter.unusedVariables false
set_option linter.unusedSimpArgs false
set_option synthInstance.maxSize 20000
set_option maxHeartbeats 1000000
set_option maxRecDepth 20000
open Go.RowKit Go.Maps
theorem u64_nat (N : Nat) (h : N < 18446744073709551616) : U64 (N : Int) := by unfold U64; omega
theorem out_new {w : World} {b n c : Nat} {o : Nat} (h : b < w.heap.size) : Out [b] (.slice (some ⟨w.heap.size, o, none⟩) n c) := fun k hk e => by
  simp [Value.ownBlock] at hk
  simp at e
  omega
end
end
section
set_option linter.unusedVariables false
set_option linter.unusedSimpArgs false
set_option synthInstance.maxSize 20000
set_option maxHeartbeats 1000000
set_option maxRecDepth 20000
open Go.RowKit Go.Maps
theorem bound_any (w : World) (b : Nat) (l : List Int) (x y n : Int) (h : Fld w b l) (hl : l.length ≤ 10000) (hx : I64 x) (hy : I64 y) (hn : I64 n) :
    Calls Tryz.prog 113 #[ptr b, .int .i64 x, .int .i64 y, .int .i64 n] w fun e w' => e = .returned (.tuple #[]) ∧ Fld w' b (l ++ boundL x y n) ∧ w.grownBy w' (some b) := by
  have HF : Hid (Fld w b l) := h
  have hlt := h.lt
  have HN : Hid (I64 n) := hn
  have C1 := fun w => count_any x w hx
  have C2 := fun w => count_any y w hy
  have hNX : x.toNat < 18446744073709551616 := by have := hx.2; omega
  have hNY : y.toNat < 18446744073709551616 := by have := hy.2; omega
  have HL : Hid (boundL x y n = form x.toNat ++ form y.toNat ++ form (zig n)) := rfl
  obtain ⟨NX, eX⟩ : ∃ NX : Nat, x.toNat = NX := ⟨_, rfl⟩
  obtain ⟨NY, eY⟩ : ∃ NY : Nat, y.toNat = NY := ⟨_, rfl⟩
  rw [eX] at C1 hNX HL
  rw [eY] at C2 hNY HL
  have HC1 : Hid (∀ w, Calls Tryz.prog 133 #[.int .i64 x] w fun e w' => e = .returned (.int .u64 (NX : Int)) ∧ w' = w) := C1
  have HC2 : Hid (∀ w, Calls Tryz.prog 133 #[.int .i64 y] w fun e w' => e = .returned (.int .u64 (NY : Int)) ∧ w' = w) := C2
  have HU : Hid (∀ z ∈ [(NX : Int), (NY : Int)], U64 z) := fun z hz => by
    simp at hz
    rcases hz with rfl | rfl <;> exact u64_nat _ (by assumption)
  have HFL : Hid (formsL [(NX : Int), (NY : Int)] = form NX ++ form NY) := by show _ = _; unfold formsL; simp
  have HLen : Hid ((form NX ++ form NY).length ≤ 20) := by
    show _ ≤ _
    have h1 := form_le10 hNX
    have h2 := form_le10 hNY
    rw [List.length_append]; omega
  have hmf : ∀ (fn : Fn) (first cap : Array Value) (w : World), (Instr.makeFunc fn first cap).run Tryz.prog w = .ok (.func fn first cap) w := fun _ _ _ _ => rfl
  have HRU : Hid (RdU (w.alloc (.cells #[.int .u64 (NX : Int), .int .u64 (NY : Int)] 26)) (.slice (some ⟨w.heap.size, 0, none⟩) 2 2) [(NX : Int), (NY : Int)]) := rdU_row w [(NX : Int), (NY : Int)] 26 (0, 0) HU.out (by unfold maxLen; simp)
  clear h hn C1 C2 eX eY hx hy hNX hNY
  have tk : Hid True := trivial
  go_enter Tryz.func113, Tryz.ntmps113
  go_wp2_with (first
    | (go_at_call 133; go_must (first
        | (refine (HC1.out _).mono ?_; rintro e w1 ⟨rfl, hw1⟩; replace hw1 := hw1.symm; subst hw1; clear HC1)
        | (refine (HC2.out _).mono ?_; rintro e w1 ⟨rfl, hw1⟩; replace hw1 := hw1.symm; subst hw1; clear HC2)))
    | (go_at_call 132; go_must (refine (nums_any _ b l _ [(NX : Int), (NY : Int)] (HF.out.below (balloc (Below.refl _ _) _)) HRU.out (by omega) (by simp) (out_new hlt)).mono ?_; rw [HFL.out]; rintro e w2 ⟨rfl, hf2, hg2⟩))
    | (go_at_call 134; go_must (refine (epoch_any w2 b _ n hf2 (by have := HLen.out; rw [List.length_append]; omega) HN.out).mono ?_; rintro e w3 ⟨rfl, hf3, hg3⟩)))
  go_end0
  refine ⟨rfl, ?_, grown_trans (grown_none (World.grownBy_alloc w _ none) hg2) hg3 (fun k hk => .inl hk)⟩
  rw [HL.out, ← List.append_assoc]
  exact hf3
theorem boundE_any (w : World) (x y n : Int) (hx : I64 x) (hy : I64 y) (hn : I64 n) :
    Calls Tryz.prog 75 #[.int .i64 x, .int .i64 y, .int .i64 n] w fun e w' => ∃ v, e = .returned v ∧ Own (w.heap.size + 1) 5 w' v (boundL x y n) ∧ Below w.heap.size w w' := by
  have H : Hid (I64 x ∧ I64 y ∧ I64 n) := ⟨hx, hy, hn⟩
  clear hx hy hn
  go_enter Tryz.func75, Tryz.ntmps75
  go_wp2_with (go_at_call 113; go_must (refine (bound_any _ w.heap.size [] x y n (fld_new w) (by simp) H.out.1 H.out.2.1 H.out.2.2).mono ?_; rw [List.nil_append]; rintro e w2 ⟨rfl, hf2, hg2⟩; obtain ⟨v, X, own, a, cap, hv⟩ := hf2.rd; subst hv; have x0 := X.cell 0 _ rfl))
  go_ret
  exact ⟨_, rfl, own, bgrown (balloc (Below.refl _ w) _) (Nat.le_refl _) hg2⟩
end
section
section
set_option linter.unusedVariables false
set_option linter.unusedSimpArgs false
set_option synthInstance.maxSize 20000
set_option maxHeartbeats 2000000
set_option maxRecDepth 20000
open Go.RowKit Go.Maps
theorem refrightE_any (e : Ent) (v : Value) (w : World) (hv : Rd w v e.b) : Calls Tryz.prog 41 #[ev e v] w fun r w' => r = .returned (.bool (eRight e)) ∧ Below w.heap.size w w' := by
  have HR : Hid (eRight e = true ↔ rightE e) := eRight_iff e
  generalize eRight e = p at HR ⊢
  have hcap : e.b.length ≤ 9223372036854775807 := by obtain ⟨a, cap, rfl⟩ := hv.len; have := hv.cap; omega
  obtain ⟨a, cap, rfl⟩ := hv.len
  obtain ⟨ew, ei, ep, et, eu, en, eb, eg⟩ := e
  unfold ev rightE at *
  dsimp only at *
  clear hv
  generalize eb.length = nl at *
  have HQ : Hid (decide (rightP (et, eu)) = true ↔ (1 ≤ et ∧ et ≤ 1099511627776 ∧ 0 ≤ eu ∧ eu ≤ 7)) := (decide_eq_true_iff : _ ↔ rightP (et, eu))
  have HR2 : Hid (p = true ↔ ((0 ≤ ew ∧ ew ≤ 7) ∧ (0 ≤ ei ∧ ei ≤ 199) ∧ (ep = 0 ↔ ei = 0) ∧ (1 ≤ et ∧ et ≤ 1099511627776 ∧ 0 ≤ eu ∧ eu ≤ 7) ∧ eu = ew ∧ (-1 ≤ en ∧ en ≤ 19) ∧ nl ≤ 1100)) := HR.out
  have C := fun w' => refright_any (et, eu) w'
  generalize decide (rightP (et, eu)) = q at HQ C
  unfold sv at C
  have HC : Hid (∀ w', Calls Tryz.prog 85 #[.agg #[.int .i64 et, .int .i64 eu]] w' fun r w'' => r = .returned (.bool q) ∧ Below w'.heap.size w' w'') := C
  clear C HR
  obtain ⟨w1, hw1⟩ : ∃ w1, w1 = w.alloc (.cells #[.int .i64 ew, .int .i64 ei, .int .u64 ep, .int .i64 et, .int .i64 eu, .int .i64 en, .slice a nl cap, .int .u64 eg] 30) := ⟨_, rfl⟩
  have HB1 : Hid (Below w.heap.size w w1) := by show Below _ _ _; rw [hw1]; exact balloc (Below.refl _ _) _
  have HX1 : Hid (Blk w1 w.heap.size 30 [.int .i64 ew, .int .i64 ei, .int .u64 ep, .int .i64 et, .int .i64 eu, .int .i64 en, .slice a nl cap, .int .u64 eg]) := by show Blk _ _ _ _; rw [hw1]; exact blk_new w [.int .i64 ew, .int .i64 ei, .int .u64 ep, .int .i64 et, .int .i64 eu, .int .i64 en, .slice a nl cap, .int .u64 eg] 30
  by_cases hP : (0 ≤ ew ∧ ew ≤ 7) ∧ (0 ≤ ei ∧ ei ≤ 199) ∧ (ep = 0 ↔ ei = 0)
  · have hPP := hP
    obtain ⟨⟨a1, a2⟩, ⟨a3, a4⟩, a5⟩ := hP
    have a5' : ((ep == 0) == (ei == 0)) = true := (beqq ep ei).2 a5
    cases q
    · have HN : Hid (p = false) := by
        show _ = _
        rw [Bool.eq_false_iff]
        intro h
        have := HQ.out.2 (HR2.out.1 h).2.2.2.1
        cases this
      clear HQ HR2 hPP a5
      go_enter Tryz.func41, Tryz.ntmps41
      go_upto_region 1 with fail
      rw [← hw1]
      obtain ⟨n, hn⟩ : ∃ n, n = w.heap.size := ⟨_, rfl⟩
      rw [← hn] at HX1 ⊢
      clear hw1 hn
      have x0 := HX1.out.cell 0 _ rfl
      have x1 := HX1.out.cell 1 _ rfl
      have x2 := HX1.out.cell 2 _ rfl
      have x3 := HX1.out.cell 3 _ rfl
      have x4 := HX1.out.cell 4 _ rfl
      go_wp2_with (go_at_call 85; go_must (refine (HC.out w1).mono ?_; rintro r w2 ⟨rfl, hb2⟩))
      all_goals
        go_ret
        exact ⟨by rw [HN.out]; rfl, bnext HB1.out hb2⟩
    · have hQ := HQ.out.1 rfl
      clear HQ
      have HR3 : Hid (p = true ↔ (eu = ew ∧ (-1 ≤ en ∧ en ≤ 19) ∧ nl ≤ 1100)) := by
        show _ ↔ _
        rw [HR2.out]
        exact ⟨fun h => h.2.2.2.2, fun h => ⟨hPP.1, hPP.2.1, hPP.2.2, hQ, h⟩⟩
      clear HR2 hQ hPP a5
      by_cases hu : eu = ew
      · have HR4 : Hid (p = true ↔ ((-1 ≤ en ∧ en ≤ 19) ∧ nl ≤ 1100)) := by show _ ↔ _; rw [HR3.out]; exact ⟨fun h => h.2, fun h => ⟨hu, h⟩⟩
        subst hu
        clear HR3
        go_enter Tryz.func41, Tryz.ntmps41
        go_upto_region 1 with fail
        rw [← hw1]
        obtain ⟨n, hn⟩ : ∃ n, n = w.heap.size := ⟨_, rfl⟩
        rw [← hn] at HX1 ⊢
        clear hw1 hn
        have x0 := HX1.out.cell 0 _ rfl
        have x1 := HX1.out.cell 1 _ rfl
        have x2 := HX1.out.cell 2 _ rfl
        have x3 := HX1.out.cell 3 _ rfl
        have x4 := HX1.out.cell 4 _ rfl
        go_wp2_with (go_at_call 85; go_must (refine (HC.out w1).mono ?_; rintro r w2 ⟨rfl, hb2⟩; have X2 := HX1.out.below hb2; have y0 := X2.cell 0 _ rfl; have y4 := X2.cell 4 _ rfl; have y5 := X2.cell 5 _ rfl; have y6 := X2.cell 6 _ rfl))
        all_goals
          go_ret
          refine ⟨ret_bool ?_, bnext HB1.out hb2⟩
          rw [HR4.out]
          (try simp only [decide_eq_true_eq, Bool.false_eq_true, false_iff]); omega
      · have HN : Hid (p = false) := by
          show _ = _
          rw [Bool.eq_false_iff]
          intro h
          exact hu (HR3.out.1 h).1
        have hu' : (eu == ew) = false := by simpa using hu
        clear HR3 hu
        go_enter Tryz.func41, Tryz.ntmps41
        go_upto_region 1 with fail
        rw [← hw1]
        obtain ⟨n, hn⟩ : ∃ n, n = w.heap.size := ⟨_, rfl⟩
        rw [← hn] at HX1 ⊢
        clear hw1 hn
        have x0 := HX1.out.cell 0 _ rfl
        have x1 := HX1.out.cell 1 _ rfl
        have x2 := HX1.out.cell 2 _ rfl
        have x3 := HX1.out.cell 3 _ rfl
        have x4 := HX1.out.cell 4 _ rfl
        go_wp2_with (go_at_call 85; go_must (refine (HC.out w1).mono ?_; rintro r w2 ⟨rfl, hb2⟩; have X2 := HX1.out.below hb2; have y0 := X2.cell 0 _ rfl; have y4 := X2.cell 4 _ rfl))
        all_goals
          go_ret
          exact ⟨by rw [HN.out]; rfl, bnext HB1.out hb2⟩
  · have HN : Hid (p = false) := by
      show _ = _
      rw [Bool.eq_false_iff]
      intro h
      have := HR2.out.1 h
      exact hP ⟨this.1, this.2.1, this.2.2.1⟩
    have hP' : ((ep == 0) == (ei == 0)) = true → ¬ ((0 ≤ ew ∧ ew ≤ 7) ∧ (0 ≤ ei ∧ ei ≤ 199)) := fun h1 h2 => hP ⟨h2.1, h2.2, (beqq ep ei).1 h1⟩
    have HNO : Hid (¬ ((0 ≤ ew ∧ ew ≤ 7) ∧ (0 ≤ ei ∧ ei ≤ 199) ∧ ((ep == 0) == (ei == 0)) = true)) := fun h => hP' h.2.2 ⟨h.1, h.2.1⟩
    clear HR2 HQ hP hP'
    generalize hz : ((ep == 0) == (ei == 0)) = z at *
    go_enter Tryz.func41, Tryz.ntmps41
    go_upto_region 1 with fail
    rw [← hw1]
    obtain ⟨n, hn⟩ : ∃ n, n = w.heap.size := ⟨_, rfl⟩
    rw [← hn] at HX1 ⊢
    clear hw1 hn
    have x0 := HX1.out.cell 0 _ rfl
    have x1 := HX1.out.cell 1 _ rfl
    have x2 := HX1.out.cell 2 _ rfl
    have x3 := HX1.out.cell 3 _ rfl
    have x4 := HX1.out.cell 4 _ rfl
    by_cases c1 : 0 ≤ ew
    · by_cases c2 : ew < 8
      · by_cases c3 : 0 ≤ ei
        · by_cases c4 : ei < 200
          · have hz' : z = false := by
              cases z
              · rfl
              · exact absurd ⟨⟨c1, by omega⟩, ⟨c3, by omega⟩, rfl⟩ HNO.out
            subst hz'
            go_wp2_with fail
            go_ret
            exact ⟨by rw [HN.out]; rfl, HB1.out⟩
          · go_wp2_with fail
            go_ret
            exact ⟨by rw [HN.out]; rfl, HB1.out⟩
        · go_wp2_with fail
          go_ret
          exact ⟨by rw [HN.out]; rfl, HB1.out⟩
      · go_wp2_with fail
        go_ret
        exact ⟨by rw [HN.out]; rfl, HB1.out⟩
    · go_wp2_with fail
      go_ret
      exact ⟨by rw [HN.out]; rfl, HB1.out⟩
end
end
section
set_option linter.unusedVariables false
open Go.RowKit
set_option maxHeartbeats 400000 in
theorem broom_any (c : Nat) (w : World) (hc : c < 7) : Calls Tryz.prog 89 #[.int .i64 c] w fun e w' => e = .returned (.int .i64 (roomOf c)) ∧ Below w.heap.size w w' := by
  obtain ⟨s, hs, hs1, HS⟩ : ∃ s : Nat, s ≤ 1024 ∧ roomOf c ≤ s ∧ Hid (∀ w, Calls Tryz.prog 88 #[.int .i64 c] w fun e w' => e = .returned (.int .i64 (s : Int)) ∧ w' = w) := by
    refine ⟨16 * 2 ^ c, ?_, ?_, fun w => bsize_any c w hc⟩
    all_goals
      have h7 : c = 0 ∨ c = 1 ∨ c = 2 ∨ c = 3 ∨ c = 4 ∨ c = 5 ∨ c = 6 := by omega
      rcases h7 with rfl | rfl | rfl | rfl | rfl | rfl | rfl <;> simp [roomOf]
  go_enter Tryz.func89, Tryz.ntmps89
  go_wp2_with (go_at_call 88; go_must (refine (HS.out _).mono ?_; rintro e w1 ⟨rfl, rfl⟩))
  go_loopw [3] (fun i wr => ∃ k : Nat, roomOf c ≤ k ∧ k ≤ 1024 ∧ i = .int .i64 k ∧ Below w1.heap.size w1 wr) (fun i _ => (intOf i).toNat)
  case atStart => exact ⟨s, hs1, hs, rfl, Below.refl _ _⟩
  case round =>
    obtain ⟨k, hk, hk2, rfl, hb⟩ := hrel
    have HB : Hid (Below w1.heap.size w1 wr) := hb
    clear hb
    by_cases hf : k ≤ roomOf c
    · go_wp2_with (go_at_call 49; go_must (refine (holds_any c k _ hc (by omega)).mono ?_; rintro e w2 ⟨rfl, hb1⟩; rw [decide_eq_true hf]))
      go_ret
      refine ⟨?_, bnext HB.out hb1⟩
      rw [show roomOf c = k by omega]
      rfl
    · go_wp2_with (go_at_call 49; go_must (refine (holds_any c k _ hc (by omega)).mono ?_; rintro e w2 ⟨rfl, hb1⟩; rw [decide_eq_false hf]))
      go_roundw
      case rel => exact ⟨k - 1, by omega, by omega, by rw [Int.natCast_sub (by omega)]; go_num, bnext HB.out hb1⟩
      case measure => simp [intOf]; omega
theorem room_any (c : Int) (w : World) : Calls Tryz.prog 46 #[.int .i64 c] w fun e w' => e = .returned (.int .i64 (roomI c)) ∧ Below w.heap.size w w' := by
  by_cases h : 0 ≤ c ∧ c < 7
  · obtain ⟨m, rfl⟩ := Int.eq_ofNat_of_zero_le h.1
    go_enter Tryz.func46, Tryz.ntmps46
    go_wp2_with (first | (go_at_call 87; go_must (refine (known_any _ _).mono ?_; rintro e w1 ⟨rfl, rfl⟩; rw [decide_eq_true h])) | (go_at_call 89; go_must (refine (broom_any m _ (by omega)).mono ?_; rintro e w2 ⟨rfl, hb1⟩)))
    go_ret
    refine ⟨?_, hb1⟩
    unfold roomI
    rw [if_pos h]
    rfl
  · go_enter Tryz.func46, Tryz.ntmps46
    go_wp2_with (go_at_call 87; go_must (refine (known_any _ _).mono ?_; rintro e w1 ⟨rfl, rfl⟩; rw [decide_eq_false h]))
    go_ret
    refine ⟨?_, Below.refl _ _⟩
    unfold roomI
    rw [if_neg h]
    rfl
theorem classes_any (w : World) : Calls Tryz.prog 43 #[] w fun e w' => e = .returned (.int .i64 7) ∧ w' = w := by
  go_enter Tryz.func43, Tryz.ntmps43
  go_wp2
  go_ret
  exact ⟨rfl, rfl⟩
end
section
set_option linter.unusedVariables false
open Go.RowKit
set_option maxHeartbeats 400000 in
theorem refroom_any (c : Int) (w : World) : Calls Tryz.prog 17 #[.int .i64 c] w fun e w' => e = .returned (.int .i64 (roomI c)) ∧ Below w.heap.size w w' := by
  by_cases h0 : c < 0
  · go_enter Tryz.func17, Tryz.ntmps17
    go_wp2
    go_ret
    refine ⟨?_, Below.refl _ _⟩
    unfold roomI
    rw [if_neg (by omega)]
    rfl
  · by_cases h1 : c > 6
    · go_enter Tryz.func17, Tryz.ntmps17
      go_wp2
      go_ret
      refine ⟨?_, Below.refl _ _⟩
      unfold roomI
      rw [if_neg (by omega)]
      rfl
    · obtain ⟨c, rfl⟩ := Int.eq_ofNat_of_zero_le (by omega : 0 ≤ c)
      have hr : roomOf c ≤ 1022 := by unfold roomOf; (repeat' split) <;> omega
      go_enter Tryz.func17, Tryz.ntmps17
      go_wp2
      go_loopw [3] (fun i wr => ∃ k : Nat, k ≤ roomOf c ∧ i = .int .i64 k ∧ Below w.heap.size w wr) (fun i _ => roomOf c - (intOf i).toNat)
      case atStart => exact ⟨0, by omega, rfl, Below.refl _ _⟩
      case round =>
        obtain ⟨k, hk, rfl, hb⟩ := hrel
        have HB : Hid (Below w.heap.size w wr) := hb
        clear hb
        have HL : Hid ((0 ≤ cls (k + 1) ∧ cls (k + 1) ≤ c) ↔ k + 1 ≤ roomOf c) := cls_le c (k + 1) (by omega)
        have hb2 := cls_lt (k + 1)
        have HC : Hid (∀ w, Calls Tryz.prog 47 #[.int .i64 ((k : Int) + 1)] w fun e w' => e = .returned (.int .i64 (cls (k + 1))) ∧ Below w.heap.size w w') := fun w => by
          have := refclass_any ((k + 1 : Nat) : Int) w (by omega)
          rw [clsI_nat] at this
          simpa using this
        generalize cls (k + 1) = q at *
        by_cases hlt : k + 1 ≤ roomOf c
        · have hq := HL.out.2 hlt
          have hq1 := hq.1
          have hq2 := hq.2
          clear hq
          go_wp2_with (go_at_call 47; go_must (refine (HC.out _).mono ?_; rintro e w1 ⟨rfl, hb1⟩; replace HB : Hid (Below w.heap.size w w1) := bnext HB.out hb1; clear hb1))
          go_roundw
          case rel => exact ⟨k + 1, by omega, by go_num, HB.out⟩
          case measure => simp [intOf]; omega
        · have hk2 : Hid (roomOf c = k) := by show _ = _; omega
          have hnq : ¬ (0 ≤ q ∧ q ≤ c) := fun h => hlt (HL.out.1 h)
          by_cases hq1 : 0 ≤ q
          · have hq2 : ¬ q ≤ c := fun h => hnq ⟨hq1, h⟩
            clear hnq
            go_wp2_with (go_at_call 47; go_must (refine (HC.out _).mono ?_; rintro e w1 ⟨rfl, hb1⟩; replace HB : Hid (Below w.heap.size w w1) := bnext HB.out hb1; clear hb1))
            go_ret
            refine ⟨?_, HB.out⟩
            unfold roomI
            rw [if_pos (by omega), Int.toNat_natCast, hk2.out]
            rfl
          · clear hnq
            go_wp2_with (go_at_call 47; go_must (refine (HC.out _).mono ?_; rintro e w1 ⟨rfl, hb1⟩; replace HB : Hid (Below w.heap.size w w1) := bnext HB.out hb1; clear hb1))
            go_ret
            refine ⟨?_, HB.out⟩
            unfold roomI
            rw [if_pos (by omega), Int.toNat_natCast, hk2.out]
            rfl
end
section
set_option linter.unusedVariables false
set_option synthInstance.maxSize 20000
open Classical
open Go.RowKit Go.Maps
theorem alike_any (v x : Value) (a b : List Int) (w : World) (hv : Rd w v a) (hx : Rd w x b) (ha : a.length ≤ 2000) (hb : b.length ≤ 2000) :
    Calls Tryz.prog 18 #[v, x] w fun e w' => e = .returned (.bool (decide (cls a.length = cls b.length))) ∧ Below w.heap.size w w' := by
  obtain ⟨av, cv, rfl⟩ := hv.len
  obtain ⟨ax, cx, rfl⟩ := hx.len
  have H : Hid (∀ (l : List Int) w, l.length ≤ 2000 → Calls Tryz.prog 19 #[.int .i64 l.length] w fun e w' => e = .returned (.int .i64 (cls l.length)) ∧ Below w.heap.size w w') := fun l w hl => by
    have := class_any l.length w (by omega)
    rwa [clsI_nat] at this
  have HA : Hid True := trivial
  go_enter Tryz.func18, Tryz.ntmps18
  go_wp2_with fail
  refine (H.out a _ ha).mono ?_
  rintro e w1 ⟨rfl, hb1⟩
  go_wp2_with fail
  refine (H.out b _ hb).mono ?_
  rintro e w2 ⟨rfl, hb2⟩
  go_wp2
  go_ret
  refine ⟨?_, bnext hb1 hb2⟩
  show Ending.returned (.bool (cls a.length == cls b.length)) = _
  by_cases h : cls a.length = cls b.length
  · simp [h]
  · rw [decide_eq_false h]
    simpa using h
structure Both (W w : World) (b1 b2 : Nat) (f1 f2 : List Nat) (S T : St) : Prop where
  one : At W w b1 f1 S
  two : At W w b2 f2 T
  apart : ∀ k ∈ f1, k ∉ f2
theorem Both.below {W w w' : World} {b1 b2 : Nat} {f1 f2 : List Nat} {S T : St} (h : Both W w b1 b2 f1 f2 S T) (hb : Below w.heap.size w w') : Both W w' b1 b2 f1 f2 S T := ⟨h.one.below hb, h.two.below hb, h.apart⟩
theorem LeftB.turn {w w' : World} {b : Nat} {ft : List Nat} {S' : St} {v : Value} {l : List Int} (h : LeftB w b ft S' w' v l) : Turn ft w w' := h.2.2.1
end
end Go.Proofs.YtjbpfhnagiacmaaGreat
