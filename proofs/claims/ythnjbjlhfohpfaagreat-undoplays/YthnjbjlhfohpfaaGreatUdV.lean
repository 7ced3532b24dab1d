/-
  What must come at any rate: the chapter's example.
-/
import Derived.Test.YthnjbjlhfohpfaaGreatUdN
import Derived.Test.YthnjbjlhfohpfaaGreatLgt
namespace Go.Proofs.YthnjbjlhfohpfaaGreat
set_option linter.unusedVariables false
set_option linter.unusedSimpArgs false
set_option synthInstance.maxSize 20000
set_option maxHeartbeats 2000000
set_option maxRecDepth 20000
open Go.RowKit Go.Maps

theorem exec_mn36 {k : Int} {a n : S} {s : ByteArray} {o : Oper} {r : Operand → Value} {w : World} (x0 x1 x2 x5 : Operand) (ho : o.op = .build 38 #[(0, x0), (1, x1), (2, x2), (5, x5)]) (h0 : r x0 = .int .i64 k) (h1 : r x1 = sv a) (h2 : r x2 = sv n) (h5 : r x5 = .string s) : (execOp r o).run Tryz.prog w = .ok (.value (ov ⟨k, a, n, (0, 0), false, s, none, 0, 0, []⟩)) w := by
  obtain ⟨a1, a2⟩ := a
  obtain ⟨n1, n2⟩ := n
  unfold sv at h1 h2
  unfold ov oc
  dsimp only at h1 h2 ⊢
  unfold execOp
  simp only [ho]
  go_simp
theorem exec_bs33 {x y : Int} {o : Oper} {r : Operand → Value} {w : World} (ho : o.op = .build 35 #[(0, .const (.int .i64 x)), (1, .const (.int .i64 y))]) (h0 : r (.const (.int .i64 x)) = .int .i64 x) (h1 : r (.const (.int .i64 y)) = .int .i64 y) : (execOp r o).run Tryz.prog w = .ok (.value (sv (x, y))) w := by
  unfold sv
  dsimp only
  unfold execOp
  simp only [ho]
  go_simp
def ub : OpT := ⟨1, (2, 1), (2, 1), (0, 0), true, ⟨#[98]⟩, none, 0, 0, []⟩
def ux : OpT := ⟨2, (3, 1), (1, 1), (2, 1), false, ⟨#[120]⟩, none, 0, 0, []⟩
def ua : OpT := ⟨1, (1, 1), (1, 1), (0, 0), false, ⟨#[97]⟩, none, 0, 0, []⟩
def um : List IM := [⟨(1, 1), (2, 1), ⟨#[120]⟩, false, false, (0, 0), []⟩, ⟨(2, 1), (0, 0), ⟨#[98]⟩, true, false, (0, 0), []⟩]
theorem um_eq : buildM [] [ua, ub, ux] = um := by kernel_rfl
/-- A log that the law made, two stamps beside it. -/
structure Alu (w0 w : World) (lb : Nat) (v : Value) (tb : Nat) (mo : Option Nat) (L : List IT) (U : List ST) (B0 B1 : Nat) : Prop where
  log : LogN w0.heap.size w lb v tb mo L U
  a : Blk w B0 35 (sc (1, 1))
  b : Blk w B1 35 (sc (2, 1))
  bel : Below w0.heap.size w0 w
def AluAns (w0 : World) (lb tb B0 B1 : Nat) (O : List OpT) (w' : World) : Prop := ∃ v' mo' L' T, Alu w0 w' lb v' tb mo' L' T B0 B1 ∧ Ob T = O
theorem Alu.ins {w0 w : World} {lb tb B0 B1 : Nat} {v : Value} {mo : Option Nat} {L : List IT} {U : List ST} (h : Alu w0 w lb v tb mo L U B0 B1) (q : OpT) (O O2 : List OpT) (n : Int) (hU : Ob U = O) (hO : O.length ≤ 10) (hq : q.v = .slice none 0 0) (hb : q.b = []) (hr : rightO q = true) (hn : hasO q.a O = false) (h2 : loO q.a O ++ bare q :: hiO q.a O = O2) (hl : ((hiO q.a O).length : Int) = n) :
    Calls Tryz.prog 20 #[ptr lb, ov q] w fun e w' => e = .returned (.tuple #[.int .i64 n, .int .i64 0]) ∧ AluAns w0 lb tb B0 B1 O2 w' := by
  have hrd : Rd w q.v q.b := by rw [hq, hb]; exact rd_nil w
  have hUl : U.length ≤ 10 := by rw [← Ob_len, hU]; exact hO
  refine (insert10 h.log.at_ (by omega) hrd (by rw [hb]; exact Nat.zero_le _)).mono ?_
  rintro e w' ⟨n', k, v', mo', L', T, rfl, q1, q2, q3⟩
  have q4 := q3.b h.log.at_.str
  rcases q4 with ⟨e1, _⟩ | ⟨_, ⟨e1, _⟩ | ⟨_, rfl, e3, rfl⟩⟩
  · rw [hr] at e1; cases e1
  · rw [hU, hn] at e1; cases e1
  · obtain ⟨r1, r2⟩ := h.log.step h.bel q1 q2
    refine ⟨by rw [hU, hl], v', mo', L', T, ⟨r1, q2.blk h.log.at_ h.a (by decide) (by decide) (by decide), q2.blk h.log.at_ h.b (by decide) (by decide) (by decide), r2⟩, ?_⟩
    rw [e3, hU, h2]
theorem Alu.get {w0 w : World} {lb tb B0 B1 : Nat} {v : Value} {mo : Option Nat} {L : List IT} {U : List ST} (h : Alu w0 w lb v tb mo L U B0 B1) (hU : Ob U = [bare ua, bare ub, bare ux]) (w1 : World) (hb : Below w.heap.size w w1) :
    Calls Tryz.prog 21 #[ptr tb, sv (1, 1)] w1 fun e w' => ∃ x, e = .returned (.tuple #[iv x, .bool true]) ∧ (x.m.p = (2, 1) ∧ x.m.s = ⟨#[120]⟩) ∧ Below w1.heap.size w1 w' := by
  have hl := h.log.at_.lstB (O := [ua, ub, ux]) hU.symm (fun q hq => by
    simp only [List.mem_cons, List.not_mem_nil, or_false] at hq
    rcases hq with rfl | rfl | rfl <;> rfl)
  rw [um_eq] at hl
  refine (get19 (h.log.at_.tree.below hb) (n := (1, 1)) (by unfold SOk I64; omega)).mono ?_
  rintro e w' ⟨x, b, rfl, hg, hb⟩
  have e1 := hg.is
  have e2 := hg.m
  rw [hl] at e1 e2
  have e3 : b = true := e1
  subst e3
  exact ⟨x, rfl, ⟨by rw [e2]; rfl, by rw [e2]; rfl⟩, hb⟩
theorem Alu.start {w w1 w2 w3 w4 w5 : World} {lb tb B0 B1 : Nat} (hN : LogAt w1 lb (.slice none 0 0) tb none [] []) (h1 : w.heap.size ≤ lb) (h2 : w.heap.size ≤ tb) (hb : Below w.heap.size w w1) (e2 : w2 = w1.alloc (.cells (sc (0, 0)).toArray 35)) (e3 : w3 = w2.alloc (.cells (sc (0, 0)).toArray 35)) (e4 : B0 = w1.heap.size) (e5 : B1 = w2.heap.size) (e6 : w4 = w3.setCells B0 0 (sc (1, 1))) (e7 : w5 = w4.setCells B1 0 (sc (2, 1))) :
    Alu w w5 lb (.slice none 0 0) tb none [] [] B0 B1 ∧ w3.there B0 0 2 ∧ w4.there B1 0 2 := by
  have a1 : Blk w2 B0 35 (sc (0, 0)) := by rw [e2, e4]; exact blk_new w1 _ _
  have a2 : Blk w3 B0 35 (sc (0, 0)) := by rw [e3]; exact a1.alloc _
  have b2 : Blk w3 B1 35 (sc (0, 0)) := by rw [e3, e5]; exact blk_new w2 _ _
  have hne : B1 ≠ B0 := by have := a1.lt; omega
  have g4 : w3.grownBy w4 (some B0) := by rw [e6]; exact grown_setCells _ _ _ _
  have g5 : w4.grownBy w5 (some B1) := by rw [e7]; exact grown_setCells _ _ _ _
  have a4 : Blk w4 B0 35 (sc (1, 1)) := by
    have := Blk.setCells a2 0 (sc (1, 1)) (by simp [sc])
    rw [splice_all _ _ (by simp [sc]), ← e6] at this
    exact this
  have b4 : Blk w4 B1 35 (sc (0, 0)) := b2.past g4 hne
  have b5 : Blk w5 B1 35 (sc (2, 1)) := by
    have := Blk.setCells b4 0 (sc (2, 1)) (by simp [sc])
    rw [splice_all _ _ (by simp [sc]), ← e7] at this
    exact this
  have c3 : Below w1.heap.size w1 w3 := by rw [e3, e2]; exact balloc (balloc (Below.refl _ _) _) _
  have c5 : Below w1.heap.size w1 w5 := bgrown (bgrown c3 (by omega) g4) (by rw [e5, e2]; simp) g5
  refine ⟨⟨⟨hN.below c5, h1, h2, fun k hk => (by cases hk), fun k hk => (by cases hk)⟩, a4.past g5 (fun e => hne e.symm), b5, bnext hb c5⟩, ?_, ?_⟩
  · exact Blk.there a2 0 2 (by simp [sc])
  · exact Blk.there b4 0 2 (by simp [sc])
set_option maxHeartbeats 16000000 in
theorem alive7 (w : World) : Calls Tryz.prog 5 #[] w fun e w' => e = .returned (.bool true) ∧ Below w.heap.size w w' := by
  have hN := new9 w
  have tk1 : Hid True := trivial
  have tk2 : Hid True := trivial
  have tk3 : Hid True := trivial
  have tk4 : Hid True := trivial
  go_enter Tryz.func5, Tryz.ntmps5
  go_upto_region 2 with (go_at_call 6; go_must (refine hN.mono ?_; rintro e w1 ⟨lb, tb, rfl, n1, n2, n3, n4⟩; have HN1 : Hid (LogAt w1 lb (.slice none 0 0) tb none [] []) := n1; have HN2 : Hid (w.heap.size ≤ lb ∧ w.heap.size ≤ tb) := ⟨n2, n3⟩; have HN3 : Hid (Below w.heap.size w w1) := n4; clear n1 n2 n3 n4 hN))
  obtain ⟨w2, hw2⟩ : ∃ w2, w2 = w1.alloc (.cells (sc (0, 0)).toArray 35) := ⟨_, rfl⟩
  obtain ⟨w3, hw3⟩ : ∃ w3, w3 = w2.alloc (.cells (sc (0, 0)).toArray 35) := ⟨_, rfl⟩
  obtain ⟨B0, hB0⟩ : ∃ B0, B0 = w1.heap.size := ⟨_, rfl⟩
  obtain ⟨B1, hB1⟩ : ∃ B1, B1 = w2.heap.size := ⟨_, rfl⟩
  obtain ⟨w4, hw4⟩ : ∃ w4, w4 = w3.setCells B0 0 (sc (1, 1)) := ⟨_, rfl⟩
  obtain ⟨w5, hw5⟩ : ∃ w5, w5 = w4.setCells B1 0 (sc (2, 1)) := ⟨_, rfl⟩
  obtain ⟨i1, i2, i3⟩ := Alu.start HN1.out HN2.out.1 HN2.out.2 HN3.out hw2 hw3 hB0 hB1 hw4 hw5
  have HA0 : Hid (Alu w w5 lb (.slice none 0 0) tb none [] [] B0 B1) := i1
  have HT2 : Hid (w3.there B0 0 2) := i2
  have HT3 : Hid (w4.there B1 0 2) := i3
  have HW1 : Hid (w2 = w1.alloc (.cells (sc (0, 0)).toArray 35)) := hw2
  have HW2 : Hid (w3 = w2.alloc (.cells (sc (0, 0)).toArray 35)) := hw3
  have HE0 : Hid (B0 = w1.heap.size) := hB0
  have HE1 : Hid (B1 = w2.heap.size) := hB1
  have HW3 : Hid (w4 = w3.setCells B0 0 (sc (1, 1))) := hw4
  have HW4 : Hid (w5 = w4.setCells B1 0 (sc (2, 1))) := hw5
  clear i1 i2 i3 hw2 hw3 hB0 hB1 hw4 hw5 HN1 HN2 HN3
  go_upto_region 3 with (first
    | (refine wpList_okw rfl (exec_bs33 (x := 1) (y := 1) rfl rfl rfl) ?_)
    | (refine wpList_okw rfl (exec_bs33 (x := 2) (y := 1) rfl rfl rfl) ?_)
    | (clear tk1; refine wpList_okw rfl (exec_alloc24 rfl) ?_; rw [← HW1.out, ← HE0.out])
    | (clear tk2; refine wpList_okw rfl (exec_alloc24 rfl) ?_; rw [← HW2.out, ← HE1.out])
    | (clear tk3; refine wpList_skipw rfl (exec_store24n (n := (1, 1)) (.tmp 2) (.tmp 9) rfl rfl rfl HT2.out) ?_; rw [← HW3.out])
    | (clear tk4; refine wpList_skipw rfl (exec_store24n (n := (2, 1)) (.tmp 3) (.tmp 10) rfl rfl rfl HT3.out) ?_; rw [← HW4.out]))
  clear HT2 HT3 HW1 HW2 HE0 HE1 HW3 HW4
  have HRa1 : Hid (w5.rangeAt B0 0 (sc (1, 1))) := HA0.out.a.range0
  have HRb1 : Hid (w5.rangeAt B1 0 (sc (2, 1))) := HA0.out.b.range0
  have HD1 : Hid (Calls Tryz.prog 20 #[ptr lb, ov ub] w5 fun e w' => e = .returned (.tuple #[.int .i64 0, .int .i64 0]) ∧ AluAns w lb tb B0 B1 [bare ub] w') := HA0.out.ins ub [] [bare ub] 0 rfl (by decide) rfl rfl (by kernel_rfl) (by kernel_rfl) (by kernel_rfl) (by kernel_rfl)
  unfold ub at HD1
  go_upto_region 4 with (first
    | (refine wpList_okw rfl (exec_bs33 (x := 3) (y := 1) rfl rfl rfl) ?_)
    | (refine wpList_okw rfl (exec_load24n (n := (1, 1)) (.tmp 2) rfl rfl HRa1.out) ?_)
    | (refine wpList_okw rfl (exec_load24n (n := (2, 1)) (.tmp 3) rfl rfl HRb1.out) ?_)
    | (refine wpList_okw rfl (exec_mk40 (k := 1) (a := (2, 1)) (n := (2, 1)) (d := true) (s := ⟨#[98]⟩) (.const (.int .i64 1)) (.tmp 12) (.tmp 13) (.const (.bool true)) (.const (.string ⟨#[98]⟩)) rfl rfl rfl rfl rfl rfl) ?_)
    | (go_at_call 20; go_must (refine HD1.out.mono ?_; rintro e wa1 ⟨rfl, v1, mo1, L1, T1, ha, hu⟩; have HA1 : Hid (Alu w wa1 lb v1 tb mo1 L1 T1 B0 B1) := ha; have HU1 : Hid (Ob T1 = [bare ub]) := hu; clear ha hu)))
  clear HRa1 HRb1 HD1
  have HRa2 : Hid (wa1.rangeAt B0 0 (sc (1, 1))) := HA1.out.a.range0
  have HRb2 : Hid (wa1.rangeAt B1 0 (sc (2, 1))) := HA1.out.b.range0
  have HD2 : Hid (Calls Tryz.prog 20 #[ptr lb, ov ux] wa1 fun e w' => e = .returned (.tuple #[.int .i64 0, .int .i64 0]) ∧ AluAns w lb tb B0 B1 [bare ub, bare ux] w') := HA1.out.ins ux [bare ub] [bare ub, bare ux] 0 HU1.out (by decide) rfl rfl (by kernel_rfl) (by kernel_rfl) (by kernel_rfl) (by kernel_rfl)
  unfold ux at HD2
  go_upto_region 5 with (first
    | (refine wpList_okw rfl (exec_bs33 (x := 3) (y := 1) rfl rfl rfl) ?_)
    | (refine wpList_okw rfl (exec_load24n (n := (1, 1)) (.tmp 2) rfl rfl HRa2.out) ?_)
    | (refine wpList_okw rfl (exec_load24n (n := (2, 1)) (.tmp 3) rfl rfl HRb2.out) ?_)
    | (refine wpList_okw rfl (exec_mv40 (k := 2) (a := (3, 1)) (n := (1, 1)) (p := (2, 1)) (s := ⟨#[120]⟩) (.const (.int .i64 2)) (.tmp 17) (.tmp 18) (.tmp 19) (.const (.string ⟨#[120]⟩)) rfl rfl rfl rfl rfl rfl) ?_)
    | (go_at_call 20; go_must (refine HD2.out.mono ?_; rintro e wa2 ⟨rfl, v2, mo2, L2, T2, ha, hu⟩; have HA2 : Hid (Alu w wa2 lb v2 tb mo2 L2 T2 B0 B1) := ha; have HU2 : Hid (Ob T2 = [bare ub, bare ux]) := hu; clear ha hu)))
  clear HRa2 HRb2 HD2
  have HRa3 : Hid (wa2.rangeAt B0 0 (sc (1, 1))) := HA2.out.a.range0
  have HRb3 : Hid (wa2.rangeAt B1 0 (sc (2, 1))) := HA2.out.b.range0
  have HD3 : Hid (Calls Tryz.prog 20 #[ptr lb, ov ua] wa2 fun e w' => e = .returned (.tuple #[.int .i64 2, .int .i64 0]) ∧ AluAns w lb tb B0 B1 [bare ua, bare ub, bare ux] w') := HA2.out.ins ua [bare ub, bare ux] [bare ua, bare ub, bare ux] 2 HU2.out (by decide) rfl rfl (by kernel_rfl) (by kernel_rfl) (by kernel_rfl) (by kernel_rfl)
  unfold ua at HD3
  go_upto_region 6 with (first
    | (refine wpList_okw rfl (exec_bs33 (x := 3) (y := 1) rfl rfl rfl) ?_)
    | (refine wpList_okw rfl (exec_load24n (n := (1, 1)) (.tmp 2) rfl rfl HRa3.out) ?_)
    | (refine wpList_okw rfl (exec_load24n (n := (2, 1)) (.tmp 3) rfl rfl HRb3.out) ?_)
    | (refine wpList_okw rfl (exec_mn36 (k := 1) (a := (1, 1)) (n := (1, 1)) (s := ⟨#[97]⟩) (.const (.int .i64 1)) (.tmp 24) (.tmp 25) (.const (.string ⟨#[97]⟩)) rfl rfl rfl rfl rfl) ?_)
    | (go_at_call 20; go_must (refine HD3.out.mono ?_; rintro e wa3 ⟨rfl, v3, mo3, L3, T3, ha, hu⟩; have HA3 : Hid (Alu w wa3 lb v3 tb mo3 L3 T3 B0 B1) := ha; have HU3 : Hid (Ob T3 = [bare ua, bare ub, bare ux]) := hu; clear ha hu)))
  clear HRa3 HRb3 HD3
  have HTr : Hid (∀ w', Below wa3.heap.size wa3 w' → Calls Tryz.prog 15 #[ptr lb] w' fun e w'' => e = .returned (ptr tb) ∧ Below w'.heap.size w' w'') := fun w' hb => tree16 (HA3.out.log.at_.blk.below hb)
  have HGe : Hid (∀ w', Below wa3.heap.size wa3 w' → Calls Tryz.prog 21 #[ptr tb, sv (1, 1)] w' fun e w'' => ∃ x, e = .returned (.tuple #[iv x, .bool true]) ∧ (x.m.p = (2, 1) ∧ x.m.s = ⟨#[120]⟩) ∧ Below w'.heap.size w' w'') := fun w' hb => HA3.out.get HU3.out w' hb
  have HRz : Hid (∀ z : WIn (fun w' => Below wa3.heap.size wa3 w'), z.w.rangeAt B0 0 (sc (1, 1))) := fun z => (HA3.out.a.below z.ok).range0
  go_upto_region 6 with fail
  have ne : Nonempty (WIn (fun w' => Below wa3.heap.size wa3 w')) := ⟨⟨wa3.drew, below_drewn wa3 1⟩⟩
  refine wp_region_tree (C := fun w' => ∃ z : WIn (fun w' => Below wa3.heap.size wa3 w'), w' = z.w) (.still 0 (.still 2 (.two 1 (.two 3 (.still 4 (.still 5 (.still 6 (.one 7 (.one 8 (.still 9 .done)))))) 7 (.one 3 (.still 4 (.still 5 (.still 6 (.one 8 (.still 9 .done))))))) 7 (.one 1 (.one 3 (.still 4 (.still 5 (.still 6 (.one 8 (.still 9 .done)))))))))) (by kernel_rfl) (by kernel_rfl) ⟨⟨wa3.drew, below_drewn wa3 1⟩, rfl⟩ ?_
  refine tree_still rfl rfl ?_
  go_big_quiet_step (fail)
  refine wpQuiet_nil ?_
  refine tree_still rfl rfl ?_
  refine quiet_ok1 rfl (fun w' hw' => by obtain ⟨z, rfl⟩ := hw'; exact exec_load24n (n := (1, 1)) (.tmp 2) rfl rfl (HRz.out z)) ?_
  go_simp
  refine tree_two rfl rfl rfl rfl ?_ ?_
  · go_simp
    refine (HTr.out _ (below_drewn wa3 1)).mono ?_
    rintro r wt1 ⟨rfl, hbt1⟩
    have HBt1 : Hid (Below wa3.heap.size wa3 wt1) := bnext (below_drewn wa3 1) hbt1
    refine ⟨⟨⟨wt1, HBt1.out⟩, rfl⟩, ?_⟩
    go_simp
    refine tree_two rfl rfl rfl rfl ?_ ?_
    · go_simp
      refine (HGe.out _ HBt1.out).mono ?_
      rintro r wt2 ⟨x, rfl, hx, hbt2⟩
      have HX : Hid (x.m.p = (2, 1) ∧ x.m.s = ⟨#[120]⟩) := hx
      clear hx
      have HBt2 : Hid (Below wa3.heap.size wa3 wt2) := bnext HBt1.out hbt2
      refine ⟨⟨⟨wt2, HBt2.out⟩, rfl⟩, ?_⟩
      go_simp
      refine tree_still rfl rfl ?_
      go_big_quiet_step (fail)
      refine wpQuiet_nil ?_
      refine tree_still rfl rfl ?_
      go_big_quiet_step (fail)
      refine wpQuiet_nil ?_
      refine tree_still rfl rfl ?_
      go_big_quiet_step (fail)
      refine wpQuiet_nil ?_
      refine tree_one rfl rfl ?_
      refine wp_ok (exec_alloc35 rfl) ?_
      obtain ⟨wt3, hwt3⟩ : ∃ wt3, wt3 = World.alloc wt2 (.cells (ic zT).toArray 61) := ⟨_, rfl⟩
      obtain ⟨g, hg⟩ : ∃ g, g = (wt2).heap.size := ⟨_, rfl⟩
      have HBt3 : Hid (Below wa3.heap.size wa3 wt3) := (show Below _ _ _ from by rw [hwt3]; exact balloc HBt2.out _)
      have HG3 : Hid (Itp wt3 g zT) := (show Itp _ _ _ from by rw [hwt3, hg]; exact itp_new _ zT)
      have HGz : Hid (wa3.heap.size ≤ g) := (show _ ≤ _ from by rw [hg]; exact (HBt2.out).size)
      rw [← hwt3, ← hg]
      clear hwt3 hg
      refine ⟨⟨⟨wt3, HBt3.out⟩, rfl⟩, ?_⟩
      go_simp
      refine tree_one rfl rfl ?_
      refine wp_skip (exec_store35 (q := x) (.tmp 6) (.tmp 35) rfl rfl rfl HG3.out.there) ?_
      obtain ⟨w9, hw9⟩ : ∃ w9, w9 = World.setCells wt3 g 0 (ic x) := ⟨_, rfl⟩
      have HI9 : Hid (Itp w9 g x) := (show Itp _ _ _ from by rw [hw9]; exact HG3.out.put x)
      have HB9 : Hid (Below wa3.heap.size wa3 w9) := (show Below _ _ _ from by rw [hw9]; exact bgrown HBt3.out HGz.out (grown_setCells _ _ _ _))
      rw [← hw9]
      clear hw9
      refine ⟨⟨⟨w9, HB9.out⟩, rfl⟩, ?_⟩
      go_simp
      refine tree_still rfl rfl ?_
      go_big_quiet_step (fail)
      refine wpQuiet_nil ?_
      refine tree_done ?_
      clear ne
      have HRx : Hid (w9.rangeAt g 2 (sc (2, 1))) := by
        have := Itp.par HI9.out
        rw [HX.out.1] at this
        exact this
      have HRc : Hid (w9.rangeAt B1 0 (sc (2, 1))) := (HA3.out.b.below HB9.out).range0
      have cS : w9.cell? ⟨g, 4, none⟩ = some (.string ⟨#[120]⟩) := by
        have := Blk.cell HI9.out 4 _ rfl
        rw [HX.out.2] at this
        exact this
      have HLen : Hid (Calls Tryz.prog 10 #[ptr lb] w9 fun e w' => e = .returned (.int .i64 3) ∧ Below w9.heap.size w9 w') := by
        have hl : T3.length = 3 := by rw [← Ob_len, HU3.out]; rfl
        have h := HA3.out.log.at_.below HB9.out
        have := len24 h.blk h.row (by omega)
        rw [hl] at this
        exact this
      have tk9 : Hid True := trivial
      go_wp2_with (first
        | (refine wpList_okw rfl (exec_load24n (n := (2, 1)) (.tmp 47) rfl rfl HRx.out) ?_)
        | (refine wpList_okw rfl (exec_load24n (n := (2, 1)) (.tmp 3) rfl rfl HRc.out) ?_)
        | (clear tk9; refine wpList_okw rfl (exec_eql24 (a := (2, 1)) (b := (2, 1)) (.tmp 48) (.tmp 49) rfl rfl rfl) ?_; rw [show decide (((2 : Int), (1 : Int)) = (2, 1)) = true from by decide])
        | (go_at_call 10; go_must (refine HLen.out.mono ?_; rintro e wz ⟨rfl, hbz⟩; have HBz : Hid (Below w9.heap.size w9 wz) := hbz; clear hbz)))
      go_ret
      exact ⟨rfl, bnext HA3.out.bel (bnext HB9.out HBz.out)⟩
    · refine wp_ok (exec_alloc35 rfl) ?_
      obtain ⟨wt2, hwt2⟩ : ∃ wt2, wt2 = World.alloc wt1 (.cells (ic zT).toArray 61) := ⟨_, rfl⟩
      obtain ⟨g, hg⟩ : ∃ g, g = (wt1).heap.size := ⟨_, rfl⟩
      have HBt2 : Hid (Below wa3.heap.size wa3 wt2) := (show Below _ _ _ from by rw [hwt2]; exact balloc HBt1.out _)
      have HG2 : Hid (Itp wt2 g zT) := (show Itp _ _ _ from by rw [hwt2, hg]; exact itp_new _ zT)
      have HGz : Hid (wa3.heap.size ≤ g) := (show _ ≤ _ from by rw [hg]; exact (HBt1.out).size)
      rw [← hwt2, ← hg]
      clear hwt2 hg
      refine ⟨⟨⟨wt2, HBt2.out⟩, rfl⟩, ?_⟩
      go_simp
      refine tree_one rfl rfl ?_
      go_simp
      refine (HGe.out _ HBt2.out).mono ?_
      rintro r wt3 ⟨x, rfl, hx, hbt3⟩
      have HX : Hid (x.m.p = (2, 1) ∧ x.m.s = ⟨#[120]⟩) := hx
      clear hx
      have HBt3 : Hid (Below wa3.heap.size wa3 wt3) := bnext HBt2.out hbt3
      have HG3 : Hid (Itp wt3 g zT) := HG2.out.below hbt3
      refine ⟨⟨⟨wt3, HBt3.out⟩, rfl⟩, ?_⟩
      go_simp
      refine tree_still rfl rfl ?_
      go_big_quiet_step (fail)
      refine wpQuiet_nil ?_
      refine tree_still rfl rfl ?_
      go_big_quiet_step (fail)
      refine wpQuiet_nil ?_
      refine tree_still rfl rfl ?_
      go_big_quiet_step (fail)
      refine wpQuiet_nil ?_
      refine tree_one rfl rfl ?_
      refine wp_skip (exec_store35 (q := x) (.tmp 6) (.tmp 35) rfl rfl rfl HG3.out.there) ?_
      obtain ⟨w9, hw9⟩ : ∃ w9, w9 = World.setCells wt3 g 0 (ic x) := ⟨_, rfl⟩
      have HI9 : Hid (Itp w9 g x) := (show Itp _ _ _ from by rw [hw9]; exact HG3.out.put x)
      have HB9 : Hid (Below wa3.heap.size wa3 w9) := (show Below _ _ _ from by rw [hw9]; exact bgrown HBt3.out HGz.out (grown_setCells _ _ _ _))
      rw [← hw9]
      clear hw9
      refine ⟨⟨⟨w9, HB9.out⟩, rfl⟩, ?_⟩
      go_simp
      refine tree_still rfl rfl ?_
      go_big_quiet_step (fail)
      refine wpQuiet_nil ?_
      refine tree_done ?_
      clear ne
      have HRx : Hid (w9.rangeAt g 2 (sc (2, 1))) := by
        have := Itp.par HI9.out
        rw [HX.out.1] at this
        exact this
      have HRc : Hid (w9.rangeAt B1 0 (sc (2, 1))) := (HA3.out.b.below HB9.out).range0
      have cS : w9.cell? ⟨g, 4, none⟩ = some (.string ⟨#[120]⟩) := by
        have := Blk.cell HI9.out 4 _ rfl
        rw [HX.out.2] at this
        exact this
      have HLen : Hid (Calls Tryz.prog 10 #[ptr lb] w9 fun e w' => e = .returned (.int .i64 3) ∧ Below w9.heap.size w9 w') := by
        have hl : T3.length = 3 := by rw [← Ob_len, HU3.out]; rfl
        have h := HA3.out.log.at_.below HB9.out
        have := len24 h.blk h.row (by omega)
        rw [hl] at this
        exact this
      have tk9 : Hid True := trivial
      go_wp2_with (first
        | (refine wpList_okw rfl (exec_load24n (n := (2, 1)) (.tmp 47) rfl rfl HRx.out) ?_)
        | (refine wpList_okw rfl (exec_load24n (n := (2, 1)) (.tmp 3) rfl rfl HRc.out) ?_)
        | (clear tk9; refine wpList_okw rfl (exec_eql24 (a := (2, 1)) (b := (2, 1)) (.tmp 48) (.tmp 49) rfl rfl rfl) ?_; rw [show decide (((2 : Int), (1 : Int)) = (2, 1)) = true from by decide])
        | (go_at_call 10; go_must (refine HLen.out.mono ?_; rintro e wz ⟨rfl, hbz⟩; have HBz : Hid (Below w9.heap.size w9 wz) := hbz; clear hbz)))
      go_ret
      exact ⟨rfl, bnext HA3.out.bel (bnext HB9.out HBz.out)⟩
  · refine wp_ok (exec_alloc35 rfl) ?_
    obtain ⟨wt1, hwt1⟩ : ∃ wt1, wt1 = World.alloc (World.drew wa3) (.cells (ic zT).toArray 61) := ⟨_, rfl⟩
    obtain ⟨g, hg⟩ : ∃ g, g = ((World.drew wa3)).heap.size := ⟨_, rfl⟩
    have HBt1 : Hid (Below wa3.heap.size wa3 wt1) := (show Below _ _ _ from by rw [hwt1]; exact balloc (below_drewn wa3 1) _)
    have HG1 : Hid (Itp wt1 g zT) := (show Itp _ _ _ from by rw [hwt1, hg]; exact itp_new _ zT)
    have HGz : Hid (wa3.heap.size ≤ g) := (show _ ≤ _ from by rw [hg]; exact ((below_drewn wa3 1)).size)
    rw [← hwt1, ← hg]
    clear hwt1 hg
    refine ⟨⟨⟨wt1, HBt1.out⟩, rfl⟩, ?_⟩
    go_simp
    refine tree_one rfl rfl ?_
    go_simp
    refine (HTr.out _ HBt1.out).mono ?_
    rintro r wt2 ⟨rfl, hbt2⟩
    have HBt2 : Hid (Below wa3.heap.size wa3 wt2) := bnext HBt1.out hbt2
    have HG2 : Hid (Itp wt2 g zT) := HG1.out.below hbt2
    refine ⟨⟨⟨wt2, HBt2.out⟩, rfl⟩, ?_⟩
    go_simp
    refine tree_one rfl rfl ?_
    go_simp
    refine (HGe.out _ HBt2.out).mono ?_
    rintro r wt3 ⟨x, rfl, hx, hbt3⟩
    have HX : Hid (x.m.p = (2, 1) ∧ x.m.s = ⟨#[120]⟩) := hx
    clear hx
    have HBt3 : Hid (Below wa3.heap.size wa3 wt3) := bnext HBt2.out hbt3
    have HG3 : Hid (Itp wt3 g zT) := HG2.out.below hbt3
    refine ⟨⟨⟨wt3, HBt3.out⟩, rfl⟩, ?_⟩
    go_simp
    refine tree_still rfl rfl ?_
    go_big_quiet_step (fail)
    refine wpQuiet_nil ?_
    refine tree_still rfl rfl ?_
    go_big_quiet_step (fail)
    refine wpQuiet_nil ?_
    refine tree_still rfl rfl ?_
    go_big_quiet_step (fail)
    refine wpQuiet_nil ?_
    refine tree_one rfl rfl ?_
    refine wp_skip (exec_store35 (q := x) (.tmp 6) (.tmp 35) rfl rfl rfl HG3.out.there) ?_
    obtain ⟨w9, hw9⟩ : ∃ w9, w9 = World.setCells wt3 g 0 (ic x) := ⟨_, rfl⟩
    have HI9 : Hid (Itp w9 g x) := (show Itp _ _ _ from by rw [hw9]; exact HG3.out.put x)
    have HB9 : Hid (Below wa3.heap.size wa3 w9) := (show Below _ _ _ from by rw [hw9]; exact bgrown HBt3.out HGz.out (grown_setCells _ _ _ _))
    rw [← hw9]
    clear hw9
    refine ⟨⟨⟨w9, HB9.out⟩, rfl⟩, ?_⟩
    go_simp
    refine tree_still rfl rfl ?_
    go_big_quiet_step (fail)
    refine wpQuiet_nil ?_
    refine tree_done ?_
    clear ne
    have HRx : Hid (w9.rangeAt g 2 (sc (2, 1))) := by
      have := Itp.par HI9.out
      rw [HX.out.1] at this
      exact this
    have HRc : Hid (w9.rangeAt B1 0 (sc (2, 1))) := (HA3.out.b.below HB9.out).range0
    have cS : w9.cell? ⟨g, 4, none⟩ = some (.string ⟨#[120]⟩) := by
      have := Blk.cell HI9.out 4 _ rfl
      rw [HX.out.2] at this
      exact this
    have HLen : Hid (Calls Tryz.prog 10 #[ptr lb] w9 fun e w' => e = .returned (.int .i64 3) ∧ Below w9.heap.size w9 w') := by
      have hl : T3.length = 3 := by rw [← Ob_len, HU3.out]; rfl
      have h := HA3.out.log.at_.below HB9.out
      have := len24 h.blk h.row (by omega)
      rw [hl] at this
      exact this
    have tk9 : Hid True := trivial
    go_wp2_with (first
      | (refine wpList_okw rfl (exec_load24n (n := (2, 1)) (.tmp 47) rfl rfl HRx.out) ?_)
      | (refine wpList_okw rfl (exec_load24n (n := (2, 1)) (.tmp 3) rfl rfl HRc.out) ?_)
      | (clear tk9; refine wpList_okw rfl (exec_eql24 (a := (2, 1)) (b := (2, 1)) (.tmp 48) (.tmp 49) rfl rfl rfl) ?_; rw [show decide (((2 : Int), (1 : Int)) = (2, 1)) = true from by decide])
      | (go_at_call 10; go_must (refine HLen.out.mono ?_; rintro e wz ⟨rfl, hbz⟩; have HBz : Hid (Below w9.heap.size w9 wz) := hbz; clear hbz)))
    go_ret
    exact ⟨rfl, bnext HA3.out.bel (bnext HB9.out HBz.out)⟩
end Go.Proofs.YthnjbjlhfohpfaaGreat
