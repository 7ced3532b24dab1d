/-
  The store's block; note, Count, Room, Number, Append; what is refused ahead of a compaction; the steps of begin (closures).
-/
import Derived.Test.YtkcighejmjgalaaDoorHd2
namespace Go.Proofs.YtkcighejmjgalaaDoor
set_option linter.unusedVariables false
set_option linter.unusedSimpArgs false
set_option synthInstance.maxSize 20000
set_option maxHeartbeats 2000000
set_option maxRecDepth 20000
open Go.RowKit Go.Maps

def stc (db : Nat) (jv : Value) (num : Int) (f : Bool) : List Value := [ptr db, jv, .int .u32 num, .bool f]
structure SAt (w : World) (o : Nat → Nat) (js sb db : Nat) (jv : Value) (num : Int) (f : Bool) : Prop where
  blk : Blk w sb 62 (stc db jv num f)
  ob : o sb = js
section
variable {w w' : World} {o o' : Nat → Nat} {js sb db : Nat} {jv : Value} {num : Int} {f : Bool}
theorem SAt.mv {I : List Nat} (h : SAt w o js sb db jv num f) (m : Mv I w o w' o') (hj : js ∉ I) : SAt w' o' js sb db jv num f :=
  ⟨h.blk.block (m.block sb h.blk.lt (by rw [h.ob]; exact hj)), by rw [m.ext sb h.blk.lt]; exact h.ob⟩
theorem SAt.set {jv' : Value} {num' : Int} {f' : Bool} (h : SAt w o js sb db jv num f) (hg : w.grownBy w' (some sb)) (hB : Blk w' sb 62 (stc db jv' num' f')) : SAt w' o js sb db jv' num' f' ∧ Mv [js] w o w' o := ⟨⟨hB, h.ob⟩, Mv.of_set hg (fun _ => by rw [h.ob]; simp)⟩
theorem note27 (h : SAt w o js sb db jv num f) (k : Int) : Calls Tryd.prog 27 #[ptr sb, .int .i64 k] w fun r w' => r = .returned (.tuple #[]) ∧ SAt w' o js sb db jv num (f || decide (k = 19)) ∧ Mv [js] w o w' o := by
  by_cases hk : k = 19
  · rw [decide_eq_true hk, Bool.or_true]
    subst hk
    have l1 := h.blk.cell 3 _ rfl
    have l2 := h.blk.frozen 3
    have HP : Hid (SAt (w.setCell ⟨sb, 3, none⟩ (.bool true)) o js sb db jv num true ∧ Mv [js] w o (w.setCell ⟨sb, 3, none⟩ (.bool true)) o) := h.set (grown_setCell _ _ _ _) (h.blk.set 3 (.bool true))
    clear h
    go_enter Tryd.func27, Tryd.ntmps27
    go_wp2
    refine bodyPost_end (results_none rfl _ _ _) rfl ⟨rfl, HP.out⟩
  · rw [decide_eq_false hk, Bool.or_false]
    have hk' : (k == 19) = false := by simpa using hk
    have HP : Hid (SAt w o js sb db jv num f) := h
    clear h hk
    go_enter Tryd.func27, Tryd.ntmps27
    go_wp2
    refine bodyPost_end (results_none rfl _ _ _) rfl ⟨rfl, HP.out, Mv.refl _ _ _⟩
theorem number17 (h : Blk w sb 62 (stc db jv num f)) : Calls Tryd.prog 17 #[ptr sb] w fun r w' => r = .returned (.int .u32 num) ∧ w' = w := by
  have l1 := h.cell 2 _ rfl
  clear h
  go_enter Tryd.func17, Tryd.ntmps17
  go_wp2
  go_ret
  exact ⟨rfl, rfl⟩
theorem number17_nil (w : World) : Calls Tryd.prog 17 #[.pointer none] w fun r w' => r = .returned (.int .u32 0) ∧ w' = w := by
  go_enter Tryd.func17, Tryd.ntmps17
  go_wp2
  go_ret
  exact ⟨rfl, rfl⟩
theorem scount15_nil (w : World) : Calls Tryd.prog 15 #[.pointer none] w fun r w' => r = .returned (.int .i64 0) ∧ w' = w := by
  go_enter Tryd.func15, Tryd.ntmps15
  go_wp2
  go_ret
  exact ⟨rfl, rfl⟩
theorem sroom16_nil (w : World) : Calls Tryd.prog 16 #[.pointer none] w fun r w' => r = .returned (.int .i64 0) ∧ w' = w := by
  go_enter Tryd.func16, Tryd.ntmps16
  go_wp2
  go_ret
  exact ⟨rfl, rfl⟩
theorem sappend11_nil (w : World) (bv : Value) : Calls Tryd.prog 11 #[.pointer none, bv] w fun r w' => r = .returned (.int .i64 23) ∧ w' = w := by
  go_enter Tryd.func11, Tryd.ntmps11
  go_wp2
  go_ret
  exact ⟨rfl, rfl⟩
theorem compact10_nil (w : World) (bv : Value) : Calls Tryd.prog 10 #[.pointer none, bv] w fun r w' => r = .returned (.int .i64 23) ∧ w' = w := by
  go_enter Tryd.func10, Tryd.ntmps10
  go_wp2
  go_ret
  exact ⟨rfl, rfl⟩
theorem sroom16 {jb : Nat} {J : Jk} (h : Blk w sb 62 (stc db (ptr jb) num f)) (hJ : Blk w jb 97 (jc db J)) (hok : JOk J) : Calls Tryd.prog 16 #[ptr sb] w fun r w' => r = .returned (.int .i64 ((J.fin - J.next : Nat) : Int)) ∧ Below w.heap.size w w' := by
  have l1 : w.cell? ⟨sb, 1, none⟩ = some (ptr jb) := h.cell 1 _ rfl
  have HR : Hid (Calls Tryd.prog 36 #[ptr jb] w fun r w' => r = .returned (.int .i64 ((J.fin - J.next : Nat) : Int)) ∧ Below w.heap.size w w') := room27 hJ hok
  generalize J.fin - J.next = rm at *
  clear h hJ hok
  go_enter Tryd.func16, Tryd.ntmps16
  go_wp2_with (go_at_call 36; go_must (refine HR.out.mono ?_; rintro r w2 ⟨rfl, hb2⟩; have HB2 : Hid (Below w.heap.size w w2) := hb2; clear hb2))
  go_ret
  exact ⟨rfl, HB2.out⟩
theorem scount15 {jb : Nat} {J : Jk} (h : Blk w sb 62 (stc db (ptr jb) num f)) (hJ : Blk w jb 97 (jc db J)) (h1 : 1 ≤ J.count) (h4 : J.count ≤ 400) : Calls Tryd.prog 15 #[ptr sb] w fun r w' => r = .returned (.int .i64 ((J.count - 1 : Nat) : Int)) ∧ w' = w := by
  have l1 : w.cell? ⟨sb, 1, none⟩ = some (ptr jb) := h.cell 1 _ rfl
  have HR : Hid (Calls Tryd.prog 35 #[ptr jb] w fun r w' => r = .returned (.int .i64 (J.count : Int)) ∧ w' = w) := count26 hJ
  obtain ⟨c, hc⟩ : ∃ c, J.count = c + 1 := ⟨J.count - 1, by omega⟩
  rw [hc] at HR h4
  rw [show J.count - 1 = c by omega]
  have e1 : ((c + 1 : Nat) : Int) - 1 = (c : Int) := by omega
  have e2 : ¬ ((c : Int) < 0) := by omega
  generalize hCC : ((c + 1 : Nat) : Int) = C at *
  have hC : C ≤ 400 := by omega
  have hC1 : 1 ≤ C := by omega
  have HE : Hid (C - 1 = (c : Int)) := e1
  clear hCC
  clear h hJ hc h1 e1
  go_enter Tryd.func15, Tryd.ntmps15
  go_wp2_with (go_at_call 35; go_must (refine HR.out.mono ?_; rintro r w2 ⟨rfl, hw2⟩; replace hw2 := hw2.symm; subst hw2))
  all_goals go_ret
  all_goals first | exact ⟨by rw [← HE.out]; rfl, rfl⟩ | exact ⟨by have := HE.out; rw [show (c : Int) = 0 by omega]; rfl, rfl⟩
/-! ### Append -/
theorem sappend11 {jj jb j N : Nat} {J : Jk} {D : Dk} {bv : Value} {l : List Int} (hS : SAt w o js sb db (ptr jb) num f) (hJ : JAt w o jj jb db J) (hok : JOk J) (hD : DIs w o j db D) (hDk : DOk D N) (hN : N + 84 ≤ 2000) (hjj : jj ≠ j) (hj0 : j ≠ 0) (hsj : js ≠ j) (hsjj : js ≠ jj) (hb : Rd w bv l) (hl : l.length ≤ 1000000) :
    Calls Tryd.prog 11 #[ptr sb, bv] w fun r w' => r = .returned (.int .i64 (J.append D l).1) ∧ ∃ o', SAt w' o' js sb db (ptr jb) num (f || decide ((J.append D l).1 = 19)) ∧ JAt w' o' jj jb db (J.append D l).2.1 ∧ DIs w' o' j db (J.append D l).2.2 ∧ Mv [j, jj, js] w o w' o' := by
  have l1 : w.cell? ⟨sb, 1, none⟩ = some (ptr jb) := hS.blk.cell 1 _ rfl
  have H28 : Hid (Calls Tryd.prog 28 #[ptr jb, bv] w fun r w' => r = .returned (.int .i64 (J.append D l).1) ∧ Calls Tryd.prog 27 #[ptr sb, .int .i64 (J.append D l).1] w' fun r w' => r = .returned (.tuple #[]) ∧ ∃ o', SAt w' o' js sb db (ptr jb) num (f || decide ((J.append D l).1 = 19)) ∧ JAt w' o' jj jb db (J.append D l).2.1 ∧ DIs w' o' j db (J.append D l).2.2 ∧ Mv [j, jj, js] w o w' o') := by
    refine (append29 hJ hok hD hDk hN hjj hj0 hb hl).mono ?_
    rintro r w1 ⟨rfl, o1, j1, d1, m1⟩
    refine ⟨rfl, ?_⟩
    have s1 := hS.mv m1 (by simp; exact ⟨hsj, hsjj⟩)
    refine (note27 s1 _).mono ?_
    rintro r w2 ⟨rfl, s2, m2⟩
    exact ⟨rfl, o1, s2, j1.mv m2 (by simpa using hsjj.symm), d1.mv m2 (by simpa using hsj.symm), (m1.widen (by simp)).trans (m2.widen (by simp))⟩
  generalize J.append D l = A at *
  clear hS hJ hok hD hDk hb
  go_enter Tryd.func11, Tryd.ntmps11
  go_wp2_with fail
  refine H28.out.mono ?_
  rintro r w1 ⟨rfl, HC⟩
  go_wp2_with fail
  refine HC.mono ?_
  rintro r w2 ⟨rfl, hx⟩
  have HX : Hid _ := hx
  clear hx HC
  go_wp2
  go_ret
  exact ⟨rfl, HX.out⟩

/-! ### What is refused -/
def refK (m : Nat) (num : Int) (f : Bool) (len : Nat) : Int := if 4000 < len then 3 else if f then 19 else if num = 4294967295 then 2 else if hsize m < partsN len then 18 else 0
/-- In that world the store's block, and the disk, are as they were. -/
structure SW (sb db : Nat) (jv : Value) (num : Int) (f : Bool) (D : Dk) (w : World) : Prop where
  blk : Blk w sb 62 (stc db jv num f)
  d : ∃ o j, DIs w o j db D
theorem refusal25 {j : Nat} {D : Dk} {bv : Value} {l : List Int} (hS : Blk w sb 62 (stc db jv num f)) (hD : DIs w o j db D) (h2 : 2 ≤ D.now.length) (hl4 : D.now.length ≤ 400) (hn : U32 num) (hb : Rd w bv l) (hl : l.length ≤ 1000000) : Calls Tryd.prog 25 #[ptr sb, bv] w fun r w' => r = .returned (.int .i64 (refK D.now.length num f l.length)) ∧ Below w.heap.size w w' := by
  obtain ⟨ab, cb, rfl⟩ := hb.len
  have hcb := hb.cap
  have HP : Hid (Calls Tryd.prog 47 #[.int .i64 (l.length : Int)] w fun r w' => r = .returned (.int .i64 (partsI l.length)) ∧ w' = w) := parts13 _ w (by unfold I64; omega)
  have l0 : w.cell? ⟨sb, 0, none⟩ = some (ptr db) := hS.cell 0 _ rfl
  have l2 : w.cell? ⟨sb, 2, none⟩ = some (.int .u32 num) := hS.cell 2 _ rfl
  have l3 : w.cell? ⟨sb, 3, none⟩ = some (.bool f) := hS.cell 3 _ rfl
  unfold refK
  by_cases h4 : 4000 < l.length
  · rw [if_pos h4]
    rw [partsI_big h4] at HP
    clear hS hD hb h4
    go_enter Tryd.func25, Tryd.ntmps25
    go_wp2_with (go_at_call 47; go_must (refine HP.out.mono ?_; rintro r w2 ⟨rfl, hw2⟩; replace hw2 := hw2.symm; subst hw2))
    go_ret
    exact ⟨rfl, Below.refl _ _⟩
  · rw [if_neg h4]
    rw [partsI_nat (by omega)] at HP
    have hp1 : 0 < partsN l.length := partsN_pos _
    have hp0 : (((partsN l.length : Nat) : Int) == 0) = false := by simp; omega
    cases f
    · rw [if_neg (by simp)]
      by_cases hnm : num = 4294967295
      · rw [if_pos hnm]
        subst hnm
        generalize partsN l.length = pn at *
        clear hS hD hb
        go_enter Tryd.func25, Tryd.ntmps25
        go_wp2_with (go_at_call 47; go_must (refine HP.out.mono ?_; rintro r w2 ⟨rfl, hw2⟩; replace hw2 := hw2.symm; subst hw2))
        go_ret
        exact ⟨rfl, Below.refl _ _⟩
      · rw [if_neg hnm]
        have hnm' : (num == 4294967295) = false := by simpa using hnm
        have HS : Hid (SW sb db jv num false D w.drew) := ⟨hS, o, j, hD.drew⟩
        have e0 : ∀ z : WIn (SW sb db jv num false D), z.w.cell? ⟨sb, 0, none⟩ = some (ptr db) := fun z => z.ok.blk.cell 0 _ rfl
        have e2 : ∀ z : WIn (SW sb db jv num false D), z.w.cell? ⟨sb, 2, none⟩ = some (.int .u32 num) := fun z => z.ok.blk.cell 2 _ rfl
        have ne : Nonempty (WIn (SW sb db jv num false D)) := ⟨⟨w.drew, HS.out⟩⟩
        have HH : Hid (Calls Tryd.prog 43 #[ptr db, .int .u32 num] w.drew fun r w' => r = .returned (.tuple #[.int .i64 (hbase D.now.length num : Int), .int .i64 (hsize D.now.length : Int)]) ∧ w' = w.drew) := by
          obtain ⟨g, n, p, d⟩ := hD.drew
          exact half43 d h2 hl4 hn
        have HB : Hid (Below w.heap.size w w.drew) := (Below.refl _ _).drew
        have hsz : hsize D.now.length ≤ 400 := by unfold hsize; omega
        generalize partsN l.length = pn at *
        generalize hbase D.now.length num = bs at *
        generalize hsize D.now.length = sz at *
        clear hS hD hb hnm
        go_enter Tryd.func25, Tryd.ntmps25
        go_upto_region 8 with (go_at_call 47; go_must (refine HP.out.mono ?_; rintro r w2 ⟨rfl, hw2⟩; replace hw2 := hw2.symm; subst hw2))
        refine wp_region_tree (C := fun w' => ∃ z : WIn (SW sb db jv num false D), w' = z.w) (.still 0 (.still 1 (.still 2 (.still 3 (.still 4 (.still 5 (.still 6 (.still 7 (.one 8 (.still 9 (.still 10 (.still 11 (.still 12 (.still 13 .done)))))))))))))) (by kernel_rfl) (by kernel_rfl) ⟨⟨w.drew, HS.out⟩, rfl⟩ ?_
        generalize w.drew = wd at *
        iterate 8 (refine tree_still rfl rfl ?_; go_big_quiet_step (fail); refine wpQuiet_nil ?_)
        refine tree_one rfl rfl ?_
        go_simp
        refine HH.out.mono ?_
        rintro r w1 ⟨rfl, hw1⟩
        replace hw1 := hw1.symm
        subst hw1
        refine ⟨⟨⟨_, HS.out⟩, rfl⟩, ?_⟩
        iterate 5 (refine tree_still rfl rfl ?_; go_big_quiet_step (fail); refine wpQuiet_nil ?_)
        refine tree_done ?_
        clear e0 e2 ne l0 l2 l3
        by_cases hf : sz < pn
        · have HE : Hid ((if sz < pn then (18 : Int) else 0) = 18) := if_pos hf
          go_wp2
          go_ret
          first | exact ⟨rfl, HB.out⟩ | exact ⟨by rw [HE.out]; rfl, HB.out⟩
        · have HE : Hid ((if sz < pn then (18 : Int) else 0) = 0) := if_neg hf
          go_wp2
          go_ret
          first | exact ⟨rfl, HB.out⟩ | exact ⟨by rw [HE.out]; rfl, HB.out⟩
    · rw [if_pos rfl]
      generalize partsN l.length = pn at *
      clear hS hD hb
      go_enter Tryd.func25, Tryd.ntmps25
      go_wp2_with (go_at_call 47; go_must (refine HP.out.mono ?_; rintro r w2 ⟨rfl, hw2⟩; replace hw2 := hw2.symm; subst hw2))
      go_ret
      exact ⟨rfl, Below.refl _ _⟩
end
end Go.Proofs.YtkcighejmjgalaaDoor
