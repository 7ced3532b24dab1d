/-
  The disk's small functions: New, Sectors, ready, reach, Down, Pending, Writes; a nil disk.
-/
import Derived.Test.YtkcighejmjgalaaDoorDsk
import Derived.Deep.DeepCutAuto
import Derived.Deep.RegionWith
import Derived.Laws.ResultCell
namespace Go.Proofs.YtkcighejmjgalaaDoor
set_option linter.unusedVariables false
set_option linter.unusedSimpArgs false
set_option synthInstance.maxSize 20000
set_option maxHeartbeats 2000000
set_option maxRecDepth 20000
open Go.RowKit Go.Maps

theorem exec_make54 {o : Oper} {r : Operand → Value} {w : World} {n : Nat} (l c : Operand) (ho : o.op = .makeSlice 53 l c) (hl : r l = .int .i64 (n : Int)) (hc : r c = .int .i64 (n : Int)) (hn : n ≤ 400) :
    (execOp r o).run Tryd.prog w = .ok (.value (.slice (some ⟨w.heap.size, 0, none⟩) n n)) (w.alloc (.cells (flat kc (List.replicate n zs)).toArray 76)) := by
  have h := run_make_rows ty54 kc_len zs rfl w n (by omega) (by omega)
  unfold execOp
  simp only [ho, hl, hc, Sem.run_bind, h, Result.andThen_ok, Sem.run_pure]

section
variable {w : World} {o : Nat → Nat} {j b : Nat} {gv nv pv : Value} {D : Dk}
theorem ready_any (h : DAt w o j b gv nv pv D) : Calls Tryd.prog 38 #[ptr b] w fun r w' => r = .returned (.int .i64 D.ready) ∧ w' = w := by
  have c3 := h.c3
  unfold Dk.ready
  clear h
  generalize D.down = d at *
  cases d <;> unfold stI at c3
  all_goals
    go_enter Tryd.func38, Tryd.ntmps38
    go_wp2
    go_ret
    exact ⟨rfl, rfl⟩
theorem ready_nil (w : World) : Calls Tryd.prog 38 #[.pointer none] w fun r w' => r = .returned (.int .i64 23) ∧ w' = w := by
  go_enter Tryd.func38, Tryd.ntmps38
  go_wp2
  go_ret
  exact ⟨rfl, rfl⟩
theorem reach_any (h : DAt w o j b gv nv pv D) (i : Int) : Calls Tryd.prog 60 #[ptr b, .int .i64 i] w fun r w' => r = .returned (.int .i64 (D.reach i)) ∧ w' = w := by
  have R := ready_any h
  have c1 := h.c1
  obtain ⟨av, cv, hvv, hcv⟩ := slice_of_own h.n
  subst hvv
  unfold Dk.ready at R
  unfold Dk.reach
  generalize D.now.length = n at *
  clear h
  generalize D.down = d at *
  cases d
  · have HR : Hid (Calls Tryd.prog 38 #[ptr b] w fun r w' => r = .returned (.int .i64 0) ∧ w' = w) := R
    clear R
    by_cases h0 : i < 0
    · go_enter Tryd.func60, Tryd.ntmps60
      go_wp2_with (go_at_call 38; go_must (refine HR.out.mono ?_; rintro r w2 ⟨rfl, hw2⟩; replace hw2 := hw2.symm; subst hw2))
      go_ret
      simp [h0]
    · by_cases h1 : (n : Int) ≤ i
      · go_enter Tryd.func60, Tryd.ntmps60
        go_wp2_with (go_at_call 38; go_must (refine HR.out.mono ?_; rintro r w2 ⟨rfl, hw2⟩; replace hw2 := hw2.symm; subst hw2))
        all_goals
          go_ret
          simp [h1]
      · go_enter Tryd.func60, Tryd.ntmps60
        go_wp2_with (go_at_call 38; go_must (refine HR.out.mono ?_; rintro r w2 ⟨rfl, hw2⟩; replace hw2 := hw2.symm; subst hw2))
        all_goals
          go_ret
          simp [h0, h1]
  · have HR : Hid (Calls Tryd.prog 38 #[ptr b] w fun r w' => r = .returned (.int .i64 19) ∧ w' = w) := R
    clear R
    go_enter Tryd.func60, Tryd.ntmps60
    go_wp2_with (go_at_call 38; go_must (refine HR.out.mono ?_; rintro r w2 ⟨rfl, hw2⟩; replace hw2 := hw2.symm; subst hw2))
    go_ret
    exact ⟨rfl, rfl⟩
theorem reach_nil (w : World) (i : Int) : Calls Tryd.prog 60 #[.pointer none, .int .i64 i] w fun r w' => r = .returned (.int .i64 23) ∧ w' = w := by
  have HR : Hid (Calls Tryd.prog 38 #[.pointer none] w fun r w' => r = .returned (.int .i64 23) ∧ w' = w) := ready_nil w
  go_enter Tryd.func60, Tryd.ntmps60
  go_wp2_with (go_at_call 38; go_must (refine HR.out.mono ?_; rintro r w2 ⟨rfl, hw2⟩; replace hw2 := hw2.symm; subst hw2))
  go_ret
  exact ⟨rfl, rfl⟩
theorem sectors_any (h : DAt w o j b gv nv pv D) : Calls Tryd.prog 31 #[ptr b] w fun r w' => r = .returned (.int .i64 (D.now.length : Int)) ∧ w' = w := by
  have c1 := h.c1
  obtain ⟨av, cv, hvv, hcv⟩ := slice_of_own h.n
  subst hvv
  clear h
  generalize D.now.length = n at *
  go_enter Tryd.func31, Tryd.ntmps31
  go_wp2
  go_ret
  exact ⟨rfl, rfl⟩
theorem sectors_nil (w : World) : Calls Tryd.prog 31 #[.pointer none] w fun r w' => r = .returned (.int .i64 0) ∧ w' = w := by
  go_enter Tryd.func31, Tryd.ntmps31
  go_wp2
  go_ret
  exact ⟨rfl, rfl⟩
theorem down_any (h : DAt w o j b gv nv pv D) : Calls Tryd.prog 41 #[ptr b] w fun r w' => r = .returned (.bool D.down) ∧ w' = w := by
  have c1 := h.c3
  clear h
  generalize D.down = d at *
  cases d <;> unfold stI at c1
  all_goals
    go_enter Tryd.func41, Tryd.ntmps41
    go_wp2
    go_ret
    exact ⟨rfl, rfl⟩
theorem down_nil (w : World) : Calls Tryd.prog 41 #[.pointer none] w fun r w' => r = .returned (.bool false) ∧ w' = w := by
  go_enter Tryd.func41, Tryd.ntmps41
  go_wp2
  go_ret
  exact ⟨rfl, rfl⟩
end

theorem dnew_bad (w : World) (n : Int) (hn : n < 1 ∨ 400 < n) : Calls Tryd.prog 7 #[.int .i64 n] w fun r w' => r = .returned (.tuple #[.pointer none, .int .i64 1]) ∧ w' = w := by
  by_cases h1 : n < 1
  · clear hn
    go_enter Tryd.func7, Tryd.ntmps7
    go_wp2
    refine bodyPost_ret (results_tmp2 rfl _ _ _) rfl ⟨rfl, rfl⟩
  · have h2 : 400 < n := by omega
    clear hn
    go_enter Tryd.func7, Tryd.ntmps7
    go_wp2
    refine bodyPost_ret (results_tmp2 rfl _ _ _) rfl ⟨rfl, rfl⟩

/-- Two rows of one's own, and the block that holds them. -/
theorem new_at {w : World} {o : Nat → Nat} {j n : Nat} (hn : n ≤ 400) (hj : j ≠ 0) (x : Bool) :
    let A : Obj := .cells (flat kc (List.replicate n zs)).toArray 76
    let gv : Value := .slice (some ⟨w.heap.size + (if x then 0 else 1), 0, none⟩) n n
    let nv : Value := .slice (some ⟨w.heap.size + (if x then 1 else 0), 0, none⟩) n n
    let w' := ((w.alloc A).alloc A).alloc (.cells (dcells gv nv (.slice none 0 0) (newD n)).toArray 57)
    DAt w' (newTo o w j) j (w.heap.size + 2) gv nv (.slice none 0 0) (newD n) ∧ Below w.heap.size w w' := by
  intro A gv nv w'
  have hb : Below w.heap.size w w' := balloc (balloc (balloc (Below.refl _ _) _) _) _
  have s1 : (w.alloc A).heap.size = w.heap.size + 1 := by simp
  have s2 : ((w.alloc A).alloc A).heap.size = w.heap.size + 2 := by simp
  have r0 : w'.ownsRow 0 76 65 (.slice (some ⟨w.heap.size, 0, none⟩) n n) n (flat kc (List.replicate n zs)) := ((row_made kc_len zs w n (by omega)).alloc _).alloc _
  have r1 : w'.ownsRow 0 76 65 (.slice (some ⟨w.heap.size + 1, 0, none⟩) n n) n (flat kc (List.replicate n zs)) := by
    have := (row_made (e := 76) kc_len zs (w.alloc A) n (by omega)).alloc (.cells (dcells gv nv (.slice none 0 0) (newD n)).toArray 57)
    rw [s1] at this
    exact this
  have hB : Blk w' (w.heap.size + 2) 57 (dcells gv nv (.slice none 0 0) (newD n)) := by
    have := blk_new ((w.alloc A).alloc A) (dcells gv nv (.slice none 0 0) (newD n)) 57
    rw [s2] at this
    exact this
  have el : (newD n).good.length = n := by simp [newD]
  have el2 : (newD n).now.length = n := by simp [newD]
  have hg : w'.ownsRow 0 76 65 gv n (flat kc (List.replicate n zs)) := by
    cases x
    · exact r1
    · exact r0
  have hnw : w'.ownsRow 0 76 65 nv n (flat kc (List.replicate n zs)) := by
    cases x
    · exact r0
    · exact r1
  refine ⟨⟨hB, by rw [el]; exact hg, by rw [el2]; exact hnw, World.ownsRow_nil _ _ _ _, newTo_new (by omega), fun k hk => ?_, fun k hk => ?_, (fun k hk => by cases hk), fun k hk hk2 => ?_, (fun k _ hk => by cases hk), (fun k _ hk => by cases hk)⟩, hb⟩
  · have : k = w.heap.size + (if x then 0 else 1) := (Option.some.inj hk).symm
    refine ⟨newTo_new (by omega), ?_⟩
    cases x <;> simp at this <;> omega
  · have : k = w.heap.size + (if x then 1 else 0) := (Option.some.inj hk).symm
    refine ⟨newTo_new (by omega), ?_⟩
    cases x <;> simp at this <;> omega
  · have e1 : k = w.heap.size + (if x then 0 else 1) := (Option.some.inj hk).symm
    have e2 : k = w.heap.size + (if x then 1 else 0) := (Option.some.inj hk2).symm
    cases x <;> simp at e1 e2 <;> omega

theorem dnew_any (w : World) (o : Nat → Nat) (j n : Nat) (h1 : 1 ≤ n) (h2 : n ≤ 400) (hj : j ≠ 0) : Calls Tryd.prog 7 #[.int .i64 (n : Int)] w fun r w' => r = .returned (.tuple #[ptr (w.heap.size + 2), .int .i64 0]) ∧ DIs w' (newTo o w j) j (w.heap.size + 2) (newD n) ∧ Below w.heap.size w w' := by
  have NA := new_at (w := w.drew) (o := o) (j := j) (n := n) h2 hj true
  have NB := new_at (w := w.drew) (o := o) (j := j) (n := n) h2 hj false
  have MU : ∀ w' : World, Below w.drew.heap.size w.drew w' → Below w.heap.size w w' := fun w' h => ⟨h.os, h.tape, h.output, h.size, h.block⟩
  have HS : Hid (w.drew.heap.size = w.heap.size) := (rfl : w.drew.heap.size = w.heap.size)
  have hnt : newTo o w.drew j = newTo o w j := rfl
  rw [hnt] at NA NB
  generalize newTo o w j = o' at *
  unfold dcells newD stI at NA NB
  dsimp only at NA NB
  simp only [if_true, Bool.false_eq_true, if_false, Nat.add_zero] at NA NB
  go_enter Tryd.func7, Tryd.ntmps7
  go_upto_region 3 with fail
  have ne : Nonempty (WIn (fun _ => True)) := ⟨⟨w, trivial⟩⟩
  refine wp_region_tree (C := fun w' => ∃ z : WIn (fun _ => True), w' = z.w)
    (.still 0 (.still 2 (.two 1 (.one 3 (.still 4 (.one 5 (.still 6 (.still 7 .done))))) 3 (.one 1 (.still 4 (.one 5 (.still 6 (.still 7 .done))))))))
    (by kernel_rfl) (by kernel_rfl) ⟨⟨w.drew, trivial⟩, rfl⟩ ?_
  clear hnt
  generalize w.drew = wd at *
  iterate 2 (refine tree_still rfl rfl ?_; go_big_quiet_step (fail); refine wpQuiet_nil ?_)
  refine tree_two rfl rfl rfl rfl ?wayA ?wayB
  case' wayA =>
    refine wp_ok (exec_make54 (.tmp 10) (.tmp 10) rfl rfl rfl h2) ?_
    refine ⟨⟨⟨_, trivial⟩, rfl⟩, ?_⟩
    refine tree_one rfl rfl ?_
    refine wp_ok (exec_make54 (.tmp 12) (.tmp 12) rfl rfl rfl h2) ?_
    refine ⟨⟨⟨_, trivial⟩, rfl⟩, ?_⟩
  case' wayB =>
    refine wp_ok (exec_make54 (.tmp 12) (.tmp 12) rfl rfl rfl h2) ?_
    refine ⟨⟨⟨_, trivial⟩, rfl⟩, ?_⟩
    refine tree_one rfl rfl ?_
    refine wp_ok (exec_make54 (.tmp 10) (.tmp 10) rfl rfl rfl h2) ?_
    refine ⟨⟨⟨_, trivial⟩, rfl⟩, ?_⟩
  all_goals
    go_simp
    refine tree_still rfl rfl ?_
    go_big_quiet_step (fail)
    refine wpQuiet_nil ?_
    refine tree_one rfl rfl ?_
    go_simp
    refine ⟨⟨⟨_, trivial⟩, rfl⟩, ?_⟩
    iterate 2 (refine tree_still rfl rfl ?_; go_big_quiet_step (fail); refine wpQuiet_nil ?_)
    refine tree_done ?_
    clear ne
    go_wp2
    refine bodyPost_ret (results_tmp2 rfl _ _ _) rfl ?_
    first
      | exact ⟨(by rw [HS.out]; rfl), by rw [← HS.out]; exact ⟨_, _, _, NA.1⟩, MU _ NA.2⟩
      | exact ⟨(by rw [HS.out]; rfl), by rw [← HS.out]; exact ⟨_, _, _, NB.1⟩, MU _ NB.2⟩
end Go.Proofs.YtkcighejmjgalaaDoor
