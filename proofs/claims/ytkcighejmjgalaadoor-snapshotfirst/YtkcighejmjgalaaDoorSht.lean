/-
  A sector that is filled from its begin on (sheet): put, number; a part's sector.
-/
import Derived.Test.YtkcighejmjgalaaDoorDsk2
import Derived.Test.YtkcighejmjgalaaDoorJM
namespace Go.Proofs.YtkcighejmjgalaaDoor
set_option linter.unusedVariables false
set_option linter.unusedSimpArgs false
set_option synthInstance.maxSize 20000
set_option maxHeartbeats 2000000
set_option maxRecDepth 20000
open Go.RowKit Go.Maps

/-- copy of bytes into a block, wherever they come from. -/
theorem run_copy_in {w : World} {g : Nat} {t : TypeId} {cur : List Value} (hB : Blk w g t cur) {xv : Value} {x : List Int} (hx : Rd w xv x) (ty : TypeId) {off dLen dCap : Nat} (hd : x.length ≤ dLen) (hfit : off + x.length ≤ cur.length) :
    (Builtin.copy_ #[30, 30] ty #[.slice (some ⟨g, off, none⟩) dLen dCap, xv]).run Tryd.prog w = .ok (goInt x.length) (w.setCells g off (cs8 x)) := by
  obtain ⟨ho, ax, cx, rfl, h1, h2, h3, h4⟩ := hx
  rcases Nat.eq_zero_or_pos x.length with h0 | hp
  · have : x = [] := List.eq_nil_of_length_eq_zero h0
    subst this
    have := run_copy_none (P := Tryd.prog) w 30 30 ty 5 (some ⟨g, off, none⟩) ax dLen dCap 0 cx (by kernel_rfl) (by kernel_rfl) (by show min 0 dLen = 0; omega)
    exact this
  · obtain ⟨b, o, rfl, hc⟩ := h4 hp
    obtain ⟨i, hi, hz, hs1, hs2⟩ := info_parts byteTy.info
    have hmin : Nat.min x.length dLen = x.length := Nat.min_eq_left hd
    have hfc := run_firstCells_some (P := Tryd.prog) w i.size x.length ⟨b, o, none⟩ x.length cx (cs8 x) (by rw [hs1, cs8_length]; simp) (fun j u hu => by
      obtain ⟨hj, rfl⟩ := cs8_some hu
      rw [Addr.add_lit]
      exact hc j hj)
    have hcell : ∀ j, j < (cs8 x).length → (w.cell? ⟨g, off + 0 + j, none⟩).isSome = true := fun j hj => by
      rw [cs8_length] at hj
      rw [Nat.add_zero, hB.cell (off + j) _ (List.getElem?_eq_getElem (by omega))]
      rfl
    have hst := run_storeCells_cells (P := Tryd.prog) g off (cs8 x) 0 w hcell (fun j hj => hB.frozen _) (cs8_one x)
    rw [Nat.add_zero] at hst
    simp [Builtin.copy_, run_underlying byteTy.under, Builtin.lenOf, sizeOf, typeInfo, hi, hmin, hfc, hst]

theorem run_slice86 (w : World) (b n : Nat) (h : n < 64) : (Instr.sliceAt 74 (.pointer (some ⟨b, 0, none⟩)) (some (.int .i64 (n : Int))) none none).run Tryd.prog w = .ok (.slice (some ⟨b, n, none⟩) (64 - n) (64 - n)) w := by
  have hu : Tryd.prog.underlying 74 = some (.array 64 5) := by kernel_rfl
  obtain ⟨i, hi, hz, hs1, hs2⟩ := info_parts byteTy.info
  have h1 : ¬ (64 = n) := by omega
  have h2 : ¬ ((64 : Int) < n) := by omega
  have h3 : ¬ ((n : Int) < 0) := by omega
  simp [Instr.sliceAt, run_underlying hu, Instr.sureAddr, Instr.sliceBounds, Instr.sliceBound, sizeOf, typeInfo, hi, hs1, h1, h2, h3, Addr.add_lit, asInt, asIntOf]
  intro h9
  omega
theorem exec_slice86 {o : Oper} {r : Operand → Value} {w : World} {b n : Nat} (x y : Operand) (ho : o.op = .slice 74 x (some y) none none) (hx : r x = .pointer (some ⟨b, 0, none⟩)) (hy : r y = .int .i64 (n : Int)) (h : n < 64) : (execOp r o).run Tryd.prog w = .ok (.value (.slice (some ⟨b, n, none⟩) (64 - n) (64 - n))) w := by
  have h1 := run_slice86 w b n h
  unfold execOp
  simp only [ho, hx, hy, Option.map_some, Option.map_none, Sem.run_bind, h1, Result.andThen_ok, Sem.run_pure]
theorem exec_copy23 {o : Oper} {r : Operand → Value} {w w' : World} (d x : Operand) {dv xv v : Value} (ho : o.op = .call { callee := .builtin .copy, args := #[d, x], argTypes := #[30, 30] }) (hd : r d = dv) (hx : r x = xv) (h : (Builtin.copy_ #[30, 30] o.type #[dv, xv]).run Tryd.prog w = .ok v w') : (execOp r o).run Tryd.prog w = .ok (.value v) w' := by
  simp [execOp, ho, resolve, invoke, builtin, hd, hx, h, Result.andThen]

def shc (pre : List Int) : List Value := cs8 (pre ++ List.replicate (64 - pre.length) 0) ++ [.int .i64 (pre.length : Int)]
theorem shc_len {pre : List Int} (h : pre.length ≤ 64) : (shc pre).length = 65 := by
  simp only [shc, List.length_append, cs8_length, List.length_replicate, List.length_cons, List.length_nil]
  omega
theorem shc_next {pre : List Int} (h : pre.length ≤ 64) : (shc pre)[64]? = some (.int .i64 (pre.length : Int)) := by
  unfold shc
  rw [List.getElem?_append_right (by simp only [cs8_length, List.length_append, List.length_replicate]; omega)]
  simp only [cs8_length, List.length_append, List.length_replicate]
  rw [show 64 - (pre.length + (64 - pre.length)) = 0 by omega]
  rfl
theorem shc_put {pre x : List Int} (h : pre.length + x.length ≤ 64) : (splice (shc pre) pre.length (cs8 x)).set 64 (.int .i64 ((pre.length : Int) + (x.length : Int))) = shc (pre ++ x) := by
  have e1 : splice (shc pre) pre.length (cs8 x) = cs8 (pre ++ x ++ List.replicate (64 - (pre ++ x).length) 0) ++ [.int .i64 (pre.length : Int)] := by
    unfold splice shc
    rw [cs8_length, cs8_append, cs8_append, cs8_append, List.append_assoc, List.take_left' (cs8_length pre), ← List.drop_drop, List.drop_left' (cs8_length pre), List.drop_append_of_le_length (by rw [cs8_length, List.length_replicate]; omega)]
    have e2 : (cs8 (List.replicate (64 - pre.length) 0)).drop x.length = cs8 (List.replicate (64 - (pre ++ x).length) 0) := by
      unfold cs8
      rw [← List.map_drop, List.drop_replicate, List.length_append, Nat.sub_sub]
    rw [e2]
    simp only [List.append_assoc]
  rw [e1]
  unfold shc
  have e3 : (cs8 (pre ++ x ++ List.replicate (64 - (pre ++ x).length) 0)).length = 64 := by
    rw [cs8_length]
    simp only [List.length_append, List.length_replicate]
    omega
  rw [List.set_append_right _ _ (by omega), e3]
  simp
theorem Blk.drewn {w : World} {b : Nat} {e : TypeId} {vs : List Value} (h : Blk w b e vs) : Blk w.drew b e vs := h
theorem Rd.drewn {w : World} {v : Value} {l : List Int} (h : Rd w v l) : Rd w.drew v l := h
theorem grown_of_drew {w w' : World} {r : Option Nat} (h : w.drew.grownBy w' r) : w.grownBy w' r := ⟨h.os, h.tape, h.output, h.size, h.block⟩

/-- The next place stands in that world. -/
structure NextAt (b : Nat) (n : Int) (w : World) : Prop where
  c : w.cell? ⟨b, 64, none⟩ = some (.int .i64 n)

theorem put53 {w : World} {b : Nat} {pre x : List Int} {xv : Value} (hB : Blk w b 118 (shc pre)) (hx : Rd w xv x) (hp : pre.length < 64) (hf : pre.length + x.length ≤ 64) :
    Calls Tryd.prog 79 #[ptr b, xv] w fun r w' => r = .returned (.tuple #[]) ∧ Blk w' b 118 (shc (pre ++ x)) ∧ w.grownBy w' (some b) := by
  obtain ⟨n, hn⟩ : ∃ n, n = pre.length := ⟨_, rfl⟩
  obtain ⟨w1, hw1⟩ : ∃ w1, w1 = w.drew.setCells b n (cs8 x) := ⟨_, rfl⟩
  have hB1 : Blk w1 b 118 (splice (shc pre) pre.length (cs8 x)) := by
    rw [hw1, hn]
    exact hB.drewn.setCells _ _ (by rw [shc_len (by omega), cs8_length]; omega)
  have hG1 : w.grownBy w1 (some b) := by rw [hw1]; exact grown_of_drew (grown_setCells _ _ _ _)
  have hB2 := hB1.set 64 (.int .i64 ((pre.length : Int) + (x.length : Int)))
  rw [shc_put hf] at hB2
  have hG2 : w.grownBy (w1.setCell ⟨b, 64, none⟩ (.int .i64 ((pre.length : Int) + (x.length : Int)))) (some b) := grown_trans hG1 (grown_setCell _ _ _ _) (fun k hk => .inl hk)
  have hrun := run_copy_in (w := w.drew) hB.drewn hx.drewn 3 (off := n) (dLen := 64 - n) (dCap := 64 - n) (by omega) (by rw [shc_len (by omega)]; omega)
  rw [← hw1] at hrun
  have N0 : NextAt b n w.drew := ⟨by rw [hn]; exact hB.cell 64 _ (shc_next (by omega))⟩
  have N1 : NextAt b n w1 := ⟨by
    rw [hn]
    refine hB1.cell 64 _ ?_
    unfold splice
    rw [← List.append_assoc, List.getElem?_append_right (by simp only [List.length_append, List.length_take, cs8_length, shc_len (show pre.length ≤ 64 by omega)]; omega), List.getElem?_drop]
    simp only [List.length_append, List.length_take, cs8_length, shc_len (show pre.length ≤ 64 by omega)]
    rw [show pre.length + x.length + (64 - (min pre.length 65 + x.length)) = 64 by omega]
    exact shc_next (by omega)⟩
  have s1 : (w1.cell? ⟨b, 64, none⟩) = some (.int .i64 n) := N1.c
  have s2 : w1.frozen? ⟨b, 64, none⟩ = false := hB1.frozen 64
  have hpost : Hid (Blk (w1.setCell ⟨b, 64, none⟩ (.int .i64 ((n : Int) + (x.length : Int)))) b 118 (shc (pre ++ x)) ∧ w.grownBy (w1.setCell ⟨b, 64, none⟩ (.int .i64 ((n : Int) + (x.length : Int)))) (some b)) := by
    rw [hn]
    exact ⟨hB2, hG2⟩
  have hn64 : n < 64 := by omega
  have hxl : n + x.length ≤ 64 := by omega
  obtain ⟨ho, ax, cx, rfl, -⟩ := hx
  have HR : Hid ((Builtin.copy_ #[30, 30] 3 #[.slice (some ⟨b, n, none⟩) (64 - n) (64 - n), .slice ax x.length cx]).run Tryd.prog w.drew = .ok (goInt x.length) w1) := hrun
  have ne : Nonempty (WIn (NextAt b n)) := ⟨⟨w1, N1⟩⟩
  have e1 : ∀ z : WIn (NextAt b n), z.w.cell? ⟨b, 64, none⟩ = some (.int .i64 n) := fun z => z.ok.c
  have HN0 : Hid (NextAt b n w.drew) := N0
  have HN1 : Hid (NextAt b n w1) := N1
  clear hB hB1 hB2 hG1 hG2 hrun hw1 hn hp hf N0 N1 ho
  go_enter Tryd.func79, Tryd.ntmps79
  go_upto_region 0 with fail
  refine wp_region_treeZ (C := fun w' => ∃ z : WIn (NextAt b n), w' = z.w) 17
    (.still 0 (.still 1 (.still 2 (.still 3 (.still 4 (.still 5 (.still 6 (.still 7 (.still 8 (.still 9 (.still 10 (.still 11 (.still 12 (.one 13 (.still 14 (.one 15 (.still 16 .done)))))))))))))))))
    rfl (by kernel_rfl) (by kernel_rfl) ⟨⟨w.drew, HN0.out⟩, rfl⟩ ?_
  generalize w.drew = wd at *
  iterate 11 (refine tree_still rfl rfl ?_; go_big_quiet_step (fail); refine wpQuiet_nil ?_)
  refine tree_still rfl rfl ?_
  refine quiet_ok rfl (fun w _ => exec_slice86 (.tmp 10) (.tmp 14) rfl rfl rfl hn64) ?_
  go_simp
  refine tree_still rfl rfl ?_
  go_big_quiet_step (fail)
  refine wpQuiet_nil ?_
  refine tree_one rfl rfl ?_
  refine wp_ok (exec_copy23 (.tmp 15) (.tmp 16) rfl rfl rfl HR.out) ?_
  refine ⟨⟨⟨w1, HN1.out⟩, rfl⟩, ?_⟩
  go_simp
  refine tree_still rfl rfl ?_
  go_big_quiet_step (fail)
  refine wpQuiet_nil ?_
  refine tree_one rfl rfl ?_
  go_simp
  refine ⟨⟨⟨w1, HN1.out⟩, rfl⟩, ?_⟩
  refine tree_still rfl rfl ?_
  go_big_quiet_step (fail)
  refine wpQuiet_nil ?_
  refine tree_done ?_
  refine ⟨rfl, ?_⟩
  go_simp
  refine bodyPost_end (results_none rfl _ _ _) rfl ⟨rfl, hpost.out.1, hpost.out.2⟩

theorem number55 {w : World} {b : Nat} {pre : List Int} {n : Int} (hB : Blk w b 118 (shc pre)) (hn : U32 n) (hp : pre.length ≤ 60) :
    Calls Tryd.prog 81 #[ptr b, .int .u32 n] w fun r w' => r = .returned (.tuple #[]) ∧ Blk w' b 118 (shc (pre ++ be4 n)) ∧ w.grownBy w' (some b) := by
  obtain ⟨n0, n1⟩ := hn
  obtain ⟨w1, hw1⟩ : ∃ w1, w1 = w.alloc (.cells (cs8 (be4 n)).toArray 5) := ⟨_, rfl⟩
  have hB1 : Blk w1 b 118 (shc pre) := by rw [hw1]; exact hB.alloc _
  have hG1 : w.grownBy w1 none := by rw [hw1]; exact World.grownBy_alloc w _ none
  have hr : Rd w1 (.slice (some ⟨w.heap.size, 0, none⟩) 4 4) (be4 n) := by
    refine ⟨be4_oct ⟨n0, n1⟩, some ⟨w.heap.size, 0, none⟩, 4, rfl, Nat.le_refl _, by unfold maxLen; omega, (fun h => by cases h), fun _ => ⟨w.heap.size, 0, rfl, fun j hj => ?_⟩⟩
    rw [hw1]
    exact (blk_new w (cs8 (be4 n)) 5).cell _ _ (by rw [Nat.zero_add]; exact cs8_at _ _ hj)
  have HP : Hid (Calls Tryd.prog 79 #[ptr b, .slice (some ⟨w.heap.size, 0, none⟩) 4 4] w1 fun r w' => r = .returned (.tuple #[]) ∧ Blk w' b 118 (shc (pre ++ be4 n)) ∧ w1.grownBy w' (some b)) := put53 hB1 hr (by omega) (by rw [be4_len]; omega)
  have HG1 : Hid (w.grownBy w1 none) := hG1
  have HW1 : Hid (w1 = w.alloc (.cells #[.int .u8 (n / 16777216), .int .u8 (n / 65536 % 256), .int .u8 (n / 256 % 256), .int .u8 (n % 256)] 5)) := hw1
  clear hw1 hB hB1 hG1 hr
  go_enter Tryd.func81, Tryd.ntmps81
  go_wp2_with (go_at_call 79; go_must (rw [← HW1.out]; refine HP.out.mono ?_; rintro r w2 ⟨rfl, hb2, hg2⟩; have HB2 : Hid (Blk w2 b 118 (shc (pre ++ be4 n))) := hb2; have HG2 : Hid (w1.grownBy w2 (some b)) := hg2; clear hb2 hg2))
  refine bodyPost_end (results_none rfl _ _ _) rfl ⟨rfl, HB2.out, grown_none HG1.out HG2.out⟩

/-- A part as it is handed on. -/
def pv (gen round seq i n : Int) (bv : Value) : Value := .agg #[.int .u32 gen, .int .u32 round, .int .u32 seq, .int .i64 i, .int .i64 n, bv]
theorem numbers54 {w : World} {b : Nat} {pre : List Int} {gen round seq i n : Int} {bv : Value} (hB : Blk w b 118 (shc pre)) (hg : U32 gen) (hr : U32 round) (hs : U32 seq) (hp : pre.length ≤ 52) (h1 : bv.oneCell' = true) :
    Calls Tryd.prog 80 #[pv gen round seq i n bv, .func (.func 81) #[ptr b] #[]] w fun r w' => r = .returned (.tuple #[]) ∧ Blk w' b 118 (shc (pre ++ be4 gen ++ be4 round ++ be4 seq)) ∧ w.grownBy w' (some b) := by
  unfold pv
  obtain ⟨w1, hw1⟩ : ∃ w1, w1 = w.alloc (.cells #[.int .u32 gen, .int .u32 round, .int .u32 seq, .int .i64 i, .int .i64 n, bv] 115) := ⟨_, rfl⟩
  have c0 : Blk w1 w.heap.size 115 [.int .u32 gen, .int .u32 round, .int .u32 seq, .int .i64 i, .int .i64 n, bv] := by rw [hw1]; exact blk_new w _ 115
  have hB1 : Blk w1 b 118 (shc pre) := by rw [hw1]; exact hB.alloc _
  have hG1 : w.grownBy w1 none := by rw [hw1]; exact World.grownBy_alloc w _ none
  have hne : w.heap.size ≠ b := by have := hB.lt; omega
  have HW1 : Hid (w1 = w.alloc (.cells #[.int .u32 gen, .int .u32 round, .int .u32 seq, .int .i64 i, .int .i64 n, bv] 115)) := hw1
  have HG1 : Hid (w.grownBy w1 none) := hG1
  have l1 := c0.cell 0 _ rfl
  have H1 : Hid (Calls Tryd.prog 81 #[ptr b, .int .u32 gen] w1 fun r w' => r = .returned (.tuple #[]) ∧ Blk w' b 118 (shc (pre ++ be4 gen)) ∧ w1.grownBy w' (some b)) := number55 hB1 hg (by omega)
  have HC0 : Hid (Blk w1 w.heap.size 115 [.int .u32 gen, .int .u32 round, .int .u32 seq, .int .i64 i, .int .i64 n, bv]) := c0
  clear hw1 c0 hG1 hB hB1
  go_enter Tryd.func80, Tryd.ntmps80
  go_wp2_with fail
  rw [← HW1.out]
  refine H1.out.mono ?_
  rintro r w2 ⟨rfl, hb2, hg2⟩
  have c2 := HC0.out.past hg2 hne
  have l2 := c2.cell 1 _ rfl
  have H2 : Hid (Calls Tryd.prog 81 #[ptr b, .int .u32 round] w2 fun r w' => r = .returned (.tuple #[]) ∧ Blk w' b 118 (shc (pre ++ be4 gen ++ be4 round)) ∧ w2.grownBy w' (some b)) := number55 hb2 hr (by rw [List.length_append, be4_len]; omega)
  have HC2 : Hid (Blk w2 w.heap.size 115 [.int .u32 gen, .int .u32 round, .int .u32 seq, .int .i64 i, .int .i64 n, bv]) := c2
  have HG2 : Hid (w.grownBy w2 (some b)) := grown_none HG1.out hg2
  clear c2 hb2 hg2 HW1 l1 H1 HC0 HG1
  go_wp2_with fail
  refine H2.out.mono ?_
  rintro r w3 ⟨rfl, hb3, hg3⟩
  have c3 := HC2.out.past hg3 hne
  have l3 := c3.cell 2 _ rfl
  have H3 : Hid (Calls Tryd.prog 81 #[ptr b, .int .u32 seq] w3 fun r w' => r = .returned (.tuple #[]) ∧ Blk w' b 118 (shc (pre ++ be4 gen ++ be4 round ++ be4 seq)) ∧ w3.grownBy w' (some b)) := number55 hb3 hs (by rw [List.length_append, List.length_append, be4_len, be4_len]; omega)
  have HG3 : Hid (w.grownBy w3 (some b)) := grown_trans HG2.out hg3 (fun k hk => .inl hk)
  clear c3 hb3 hg3 l2 H2 HC2 HG2
  go_wp2_with fail
  refine H3.out.mono ?_
  rintro r w4 ⟨rfl, hb4, hg4⟩
  have HG4 : Hid (w.grownBy w4 (some b)) := grown_trans HG3.out hg4 (fun k hk => .inl hk)
  have HB4 : Hid (Blk w4 b 118 (shc (pre ++ be4 gen ++ be4 round ++ be4 seq))) := hb4
  clear hb4 hg4 H3 HG3 l3
  go_wp2
  refine bodyPost_end (results_none rfl _ _ _) rfl ⟨rfl, HB4.out, HG4.out⟩

@[simp] theorem run_make55 (w : World) (b : Nat) : (Instr.makeFunc (.func 81) #[ptr b] #[]).run Tryd.prog w = .ok (.func (.func 81) #[ptr b] #[]) w := rfl
theorem alloc100 (w : World) : (Instr.alloc 118 true (.tuple #[])).run Tryd.prog w = .ok (.pointer (some ⟨w.heap.size, 0, none⟩)) (w.alloc (.cells (shc []).toArray 118)) := by kernel_rfl
theorem exec_alloc100 {o : Oper} {r : Operand → Value} {w : World} (ho : o.op = .alloc 118) : (execOp r o).run Tryd.prog w = .ok (.value (.pointer (some ⟨w.heap.size, 0, none⟩))) (w.alloc (.cells (shc []).toArray 118)) := by
  unfold execOp
  simp only [ho, Sem.run_bind, alloc100, Result.andThen_ok, Sem.run_pure]
theorem rd_new3 (w : World) (x y z : Int) (hx : 0 ≤ x ∧ x < 256) (hy : 0 ≤ y ∧ y < 256) (hz : 0 ≤ z ∧ z < 256) : Rd (w.alloc (.cells #[.int .u8 x, .int .u8 y, .int .u8 z] 5)) (.slice (some ⟨w.heap.size, 0, none⟩) 3 3) [x, y, z] := by
  refine ⟨Oct.cons hx (Oct.cons hy (Oct.cons hz Oct.nil)), some ⟨w.heap.size, 0, none⟩, 3, rfl, Nat.le_refl _, by unfold maxLen; omega, (fun h => by cases h), fun _ => ⟨w.heap.size, 0, rfl, fun j hj => ?_⟩⟩
  have : j = 0 ∨ j = 1 ∨ j = 2 := by simp at hj; omega
  rcases this with rfl | rfl | rfl <;> simp
/-- What a full sheet shows. -/
theorem sheet_rd {w : World} {g : Nat} {x : List Int} (h : Blk w g 118 (shc x)) (hx : x.length ≤ 64) (ho : Oct x) : Rd w (.slice (some ⟨g, 0, none⟩) 64 64) (x ++ List.replicate (64 - x.length) 0) := by
  have hl : (x ++ List.replicate (64 - x.length) 0).length = 64 := by simp only [List.length_append, List.length_replicate]; omega
  refine ⟨ho.append (Oct.zeros _), some ⟨g, 0, none⟩, 64, by rw [hl], by rw [hl]; exact Nat.le_refl _, by unfold maxLen; omega, (fun h => by cases h), fun _ => ⟨g, 0, rfl, fun j hj => ?_⟩⟩
  refine h.cell _ _ ?_
  unfold shc
  rw [Nat.zero_add, List.getElem?_append_left (by rw [cs8_length]; exact hj)]
  exact cs8_at _ _ hj
theorem partB_sheet {gen round seq i n : Int} {x : List Int} (hx : x.length ≤ 48) : (([197] ++ be4 gen ++ be4 round ++ be4 seq) ++ [i, n, (x.length : Int)] ++ x) ++ List.replicate (64 - (([197] ++ be4 gen ++ be4 round ++ be4 seq) ++ [i, n, (x.length : Int)] ++ x).length) 0 = partB gen round seq i n x := by
  have e : 64 - (([197] ++ be4 gen ++ be4 round ++ be4 seq) ++ [i, n, (x.length : Int)] ++ x).length = 48 - x.length := by
    simp only [List.length_append, be4_len, List.length_cons, List.length_nil]
    omega
  rw [e]
  simp [partB, be4]

theorem sector35 {w : World} {gen round seq i n : Int} {bv : Value} {x : List Int} (hg : U32 gen) (hr : U32 round) (hs : U32 seq) (hi : 0 ≤ i ∧ i < 256) (hn : 0 ≤ n ∧ n < 256) (hx : Rd w bv x) (hl : x.length ≤ 48) :
    Calls Tryd.prog 77 #[pv gen round seq i n bv] w fun r w' => ∃ v, r = .returned v ∧ Rd w' v (partB gen round seq i n x) ∧ (∀ k, v.ownBlock = some k → w.heap.size ≤ k) ∧ Below w.heap.size w w' := by
  obtain ⟨ax, cx, rfl⟩ := hx.len
  have hoct := hx.oct
  unfold pv
  obtain ⟨w1, hw1⟩ : ∃ w1, w1 = w.alloc (.cells #[.int .u32 gen, .int .u32 round, .int .u32 seq, .int .i64 i, .int .i64 n, .slice ax x.length cx] 115) := ⟨_, rfl⟩
  have s1 : w1.heap.size = w.heap.size + 1 := by rw [hw1]; simp
  have hb1 : Below w.heap.size w w1 := by rw [hw1]; exact balloc (Below.refl _ _) _
  have c1 : Blk w1 w.heap.size 115 [.int .u32 gen, .int .u32 round, .int .u32 seq, .int .i64 i, .int .i64 n, .slice ax x.length cx] := by rw [hw1]; exact blk_new w _ 115
  obtain ⟨w2, hw2⟩ : ∃ w2, w2 = w1.alloc (.cells (shc []).toArray 118) := ⟨_, rfl⟩
  have hb2 : Below w.heap.size w w2 := by rw [hw2]; exact balloc hb1 _
  have c2 : Blk w2 w.heap.size 115 [.int .u32 gen, .int .u32 round, .int .u32 seq, .int .i64 i, .int .i64 n, .slice ax x.length cx] := by rw [hw2]; exact c1.alloc _
  have d2 : Blk w2 (w.heap.size + 1) 118 (shc []) := by rw [hw2, ← s1]; exact blk_new w1 _ 118
  obtain ⟨w3, hw3⟩ : ∃ w3, w3 = w2.alloc (.cells #[.int .u8 197] 5) := ⟨_, rfl⟩
  have hb3 : Below w.heap.size w w3 := by rw [hw3]; exact balloc hb2 _
  have c3 : Blk w3 w.heap.size 115 [.int .u32 gen, .int .u32 round, .int .u32 seq, .int .i64 i, .int .i64 n, .slice ax x.length cx] := by rw [hw3]; exact c2.alloc _
  have d3 : Blk w3 (w.heap.size + 1) 118 (shc []) := by rw [hw3]; exact d2.alloc _
  have s2 : w2.heap.size = w.heap.size + 1 + 1 := by rw [hw2]; simp [s1]
  have hr3 : Rd w3 (.slice (some ⟨w.heap.size + 1 + 1, 0, none⟩) 1 1) [197] := by
    have := rd_one w2 197 5 (by omega)
    rw [← hw3, s2] at this
    exact this
  have H1 : Hid (Calls Tryd.prog 79 #[ptr (w.heap.size + 1), .slice (some ⟨w.heap.size + 1 + 1, 0, none⟩) 1 1] w3 fun r w' => r = .returned (.tuple #[]) ∧ Blk w' (w.heap.size + 1) 118 (shc [197]) ∧ w3.grownBy w' (some (w.heap.size + 1))) := put53 d3 hr3 (by simp) (by simp)
  have HW : Hid (w3 = ((w.alloc (.cells #[.int .u32 gen, .int .u32 round, .int .u32 seq, .int .i64 i, .int .i64 n, .slice ax x.length cx] 115)).alloc (.cells (shc []).toArray 118)).alloc (.cells #[.int .u8 197] 5)) := by rw [hw3, hw2, hw1]; exact rfl
  have HB3 : Hid (Below w.heap.size w w3) := hb3
  have HC3 : Hid (Blk w3 w.heap.size 115 [.int .u32 gen, .int .u32 round, .int .u32 seq, .int .i64 i, .int .i64 n, .slice ax x.length cx]) := c3
  have HX : Hid (Rd w (.slice ax x.length cx) x) := hx
  clear hw1 hw2 hw3 s1 s2 hb1 hb2 hb3 c1 c2 c3 d2 d3 hr3 hx
  go_enter Tryd.func77, Tryd.ntmps77
  go_wp2_with (first | (refine wpList_ok rfl (exec_alloc100 rfl) ?_) | fail)
  rw [← HW.out]
  refine H1.out.mono ?_
  rintro r w4 ⟨rfl, d4, g4⟩
  have c4 := HC3.out.past g4 (by omega)
  have l0 := c4.cell 0 _ rfl
  have l1 := c4.cell 1 _ rfl
  have l2 := c4.cell 2 _ rfl
  have l3 := c4.cell 3 _ rfl
  have l4 := c4.cell 4 _ rfl
  have l5 := c4.cell 5 _ rfl
  have HB4 : Hid (Below w.heap.size w w4) := bgrown HB3.out (by omega) g4
  have H2 : Hid (Calls Tryd.prog 80 #[pv gen round seq i n (.slice ax x.length cx), .func (.func 81) #[ptr (w.heap.size + 1)] #[]] w4 fun r w' => r = .returned (.tuple #[]) ∧ Blk w' (w.heap.size + 1) 118 (shc ([197] ++ be4 gen ++ be4 round ++ be4 seq)) ∧ w4.grownBy w' (some (w.heap.size + 1))) := numbers54 d4 hg hr hs (by simp) rfl
  have HC4 : Hid (Blk w4 w.heap.size 115 [.int .u32 gen, .int .u32 round, .int .u32 seq, .int .i64 i, .int .i64 n, .slice ax x.length cx]) := c4
  clear c4 d4 g4 HW H1 HC3 HB3
  go_wp2_with fail
  refine H2.out.mono ?_
  rintro r w5 ⟨rfl, d5, g5⟩
  clear l0 l1 l2 l3 l4 l5 H2
  have c5 := HC4.out.past g5 (by omega)
  have l3 := c5.cell 3 _ rfl
  have l4 := c5.cell 4 _ rfl
  have l5 := c5.cell 5 _ rfl
  have hxl : (x.length : Int) ≤ 48 := by omega
  have hb5 : Below w.heap.size w w5 := bgrown HB4.out (by omega) g5
  obtain ⟨w6, hw6⟩ : ∃ w6, w6 = w5.alloc (.cells #[.int .u8 i, .int .u8 n, .int .u8 (x.length : Int)] 5) := ⟨_, rfl⟩
  have c6 : Blk w6 w.heap.size 115 [.int .u32 gen, .int .u32 round, .int .u32 seq, .int .i64 i, .int .i64 n, .slice ax x.length cx] := by rw [hw6]; exact c5.alloc _
  have d6 : Blk w6 (w.heap.size + 1) 118 (shc ([197] ++ be4 gen ++ be4 round ++ be4 seq)) := by rw [hw6]; exact d5.alloc _
  have hr6 : Rd w6 (.slice (some ⟨w5.heap.size, 0, none⟩) 3 3) [i, n, (x.length : Int)] := by rw [hw6]; exact rd_new3 w5 i n x.length hi hn (by omega)
  have hb6 : Below w.heap.size w w6 := by rw [hw6]; exact balloc hb5 _
  have H3 : Hid (Calls Tryd.prog 79 #[ptr (w.heap.size + 1), .slice (some ⟨w5.heap.size, 0, none⟩) 3 3] w6 fun r w' => r = .returned (.tuple #[]) ∧ Blk w' (w.heap.size + 1) 118 (shc ([197] ++ be4 gen ++ be4 round ++ be4 seq ++ [i, n, (x.length : Int)])) ∧ w6.grownBy w' (some (w.heap.size + 1))) := put53 d6 hr6 (by simp [be4_len]) (by simp [be4_len])
  have HW6 : Hid (w6 = w5.alloc (.cells #[.int .u8 i, .int .u8 n, .int .u8 (x.length : Int)] 5)) := hw6
  have HC6 : Hid (Blk w6 w.heap.size 115 [.int .u32 gen, .int .u32 round, .int .u32 seq, .int .i64 i, .int .i64 n, .slice ax x.length cx]) := c6
  have HB6 : Hid (Below w.heap.size w w6) := hb6
  clear hw6 c5 c6 d5 d6 g5 hr6 hb5 hb6 HC4 HB4
  go_wp2_with fail
  rw [← HW6.out]
  refine H3.out.mono ?_
  rintro r w7 ⟨rfl, d7, g7⟩
  clear l3 l4 l5 H3 HW6
  have c7 := HC6.out.past g7 (by omega)
  have l5 := c7.cell 5 _ rfl
  have hb7 : Below w.heap.size w w7 := bgrown HB6.out (by omega) g7
  have hr7 : Rd w7 (.slice ax x.length cx) x := HX.out.below hb7
  have H4 : Hid (Calls Tryd.prog 79 #[ptr (w.heap.size + 1), .slice ax x.length cx] w7 fun r w' => r = .returned (.tuple #[]) ∧ Blk w' (w.heap.size + 1) 118 (shc ([197] ++ be4 gen ++ be4 round ++ be4 seq ++ [i, n, (x.length : Int)] ++ x)) ∧ w7.grownBy w' (some (w.heap.size + 1))) := put53 d7 hr7 (by simp [be4_len]) (by simp [be4_len]; omega)
  have HB7 : Hid (Below w.heap.size w w7) := hb7
  clear c7 d7 g7 hb7 hr7 HC6 HB6
  go_wp2_with fail
  refine H4.out.mono ?_
  rintro r w8 ⟨rfl, d8, g8⟩
  have hb8 : Below w.heap.size w w8 := bgrown HB7.out (by omega) g8
  have hr8 := sheet_rd d8 (by simp [be4_len]; omega) (((((Oct.cons (by omega) Oct.nil).append (be4_oct hg)).append (be4_oct hr)).append (be4_oct hs)).append (Oct.cons hi (Oct.cons hn (Oct.cons (by omega) Oct.nil))) |>.append hoct)
  rw [partB_sheet hl] at hr8
  have HR8 : Hid (Rd w8 (.slice (some ⟨w.heap.size + 1, 0, none⟩) 64 64) (partB gen round seq i n x)) := hr8
  have HB8 : Hid (Below w.heap.size w w8) := hb8
  clear hr8 hb8 d8 g8 l5 H4 HB7 hoct
  go_wp2
  go_ret
  exact ⟨_, rfl, HR8.out, (fun k hk => by have := Option.some.inj hk; simp at this; omega), HB8.out⟩
end Go.Proofs.YtkcighejmjgalaaDoor
