/-
  The buffer in memory; New, Len; what is wrong where something is at a place (unmet).
-/
import Derived.Test.YtigfklcclfpcjaaBufM
namespace Go.Proofs.Ytigfklcclfpcjaa
set_option linter.unusedVariables false
set_option linter.unusedSimpArgs false
set_option synthInstance.maxSize 20000
set_option maxHeartbeats 2000000
set_option maxRecDepth 20000
open Go.RowKit Go.Maps

/-- The buffer in the block b: its queue has the entries M. -/
structure BufAt (w : World) (o : Nat → Nat) (j b : Nat) (most : Int) (v : Value) (ps : List (Ent × Value)) (M : List Ent) : Prop where
  q : QAt w o j b 61 [.int .i64 most] v ps
  has : Has ps M
  right : ∀ e ∈ M, rightE e
  few : (M.length : Int) ≤ most
  top : 1 ≤ most ∧ most ≤ 16
def BufIs (w : World) (o : Nat → Nat) (j b : Nat) (most : Int) (M : List Ent) : Prop := ∃ v ps, BufAt w o j b most v ps M
section
variable {w w' : World} {o o' : Nat → Nat} {j b : Nat} {most : Int} {v : Value} {ps : List (Ent × Value)} {M : List Ent}
theorem BufAt.mv {I : List Nat} (h : BufAt w o j b most v ps M) (m : Mv I w o w' o') (h0 : 0 ∉ I) (hj : j ∉ I) : BufAt w' o' j b most v ps M := ⟨h.q.mv m h0 hj, h.has, h.right, h.few, h.top⟩
theorem BufIs.mv {I : List Nat} (h : BufIs w o j b most M) (m : Mv I w o w' o') (h0 : 0 ∉ I) (hj : j ∉ I) : BufIs w' o' j b most M := by
  obtain ⟨v, ps, h⟩ := h
  exact ⟨v, ps, h.mv m h0 hj⟩
theorem BufAt.below (h : BufAt w o j b most v ps M) (hb : Below w.heap.size w w') : BufAt w' (newTo o w 0) j b most v ps M := h.mv (Mv.of_below (I := []) 0 hb) (by simp) (by simp)
theorem BufIs.below (h : BufIs w o j b most M) (hb : Below w.heap.size w w') : BufIs w' (newTo o w 0) j b most M := h.mv (Mv.of_below (I := []) 0 hb) (by simp) (by simp)
theorem BufAt.pslen (h : BufAt w o j b most v ps M) : ps.length ≤ 16 := by
  have h1 := h.few
  have h2 := h.top
  have h3 := h.has.len
  omega
theorem BufIs.len (h : BufIs w o j b most M) : M.length ≤ 16 := by
  obtain ⟨v, ps, h⟩ := h
  have h1 := h.few
  have h2 := h.top
  omega
theorem BufIs.srt (h : BufIs w o j b most M) : Srt M := by obtain ⟨v, ps, h⟩ := h; exact h.has.srt
theorem BufIs.right (h : BufIs w o j b most M) : ∀ e ∈ M, rightE e := by obtain ⟨v, ps, h⟩ := h; exact h.right
theorem BufIs.few (h : BufIs w o j b most M) : (M.length : Int) ≤ most := by obtain ⟨v, ps, h⟩ := h; exact h.few
theorem BufIs.lt (h : BufIs w o j b most M) : b < w.heap.size := by obtain ⟨v, ps, h⟩ := h; exact h.q.blk.lt
end

theorem bnew_ok (w : World) (o : Nat → Nat) (j : Nat) (hj0 : j ≠ 0) (most : Int) (hm : 1 ≤ most ∧ most ≤ 16) : Calls Try.prog 9 #[.int .i64 most] w fun r w' => r = .returned (.tuple #[ptr w.heap.size, .int .i64 0]) ∧ BufIs w' (newTo o w j) j w.heap.size most [] ∧ Below w.heap.size w w' := by
  have B := blk_new w [.int .i64 most, .slice none 0 0] 61
  have HB : Hid (BufIs (w.alloc (.cells #[.int .i64 most, .slice none 0 0] 61)) (newTo o w j) j w.heap.size most []) := ⟨.slice none 0 0, [], ⟨B, World.ownsRow_nil _ _ _ _, newTo_new (Nat.le_refl _), (fun k hk => by cases hk), Ents.nil _ _⟩, has_nil, (fun e he => by cases he), by simp; omega, hm⟩
  clear B
  go_enter Try.func9, Try.ntmps9
  go_wp2
  refine bodyPost_ret (results_tmp2 rfl _ _ _) rfl ⟨rfl, HB.out, balloc (Below.refl _ _) _⟩

theorem bnew_bad (w : World) (most : Int) (hm : ¬ (1 ≤ most ∧ most ≤ 16)) : Calls Try.prog 9 #[.int .i64 most] w fun r w' => r = .returned (.tuple #[.pointer none, .int .i64 1]) ∧ w' = w := by
  by_cases h1 : most < 1
  · go_enter Try.func9, Try.ntmps9
    go_wp2
    refine bodyPost_ret (results_tmp2 rfl _ _ _) rfl ⟨rfl, rfl⟩
  · have h2 : 16 < most := by omega
    go_enter Try.func9, Try.ntmps9
    go_wp2
    refine bodyPost_ret (results_tmp2 rfl _ _ _) rfl ⟨rfl, rfl⟩

theorem blen_any {w : World} {o : Nat → Nat} {j b : Nat} {most : Int} {M : List Ent} (h : BufIs w o j b most M) : Calls Try.prog 22 #[ptr b] w fun r w' => r = .returned (.int .i64 (M.length : Int)) ∧ w' = w := by
  obtain ⟨v, ps, h⟩ := h
  have hc : w.cell? ⟨b, 1, none⟩ = some v := h.q.cell
  obtain ⟨a, c, hvv, _⟩ := slice_of_own h.q.row
  rw [h.has.len] at hvv
  subst hvv
  clear h
  go_enter Try.func22, Try.ntmps22
  go_wp2_with (go_at_call 27; go_must (refine (len_any _ _ _ _).mono ?_; rintro r w2 ⟨rfl, hw2⟩; replace hw2 := hw2.symm; subst hw2))
  go_ret
  exact ⟨rfl, rfl⟩

theorem unmet_core {w : World} {b : Nat} {e f : Ent} {x y : Value} {is : Bool} (hx : Rd w x e.b) (hy : Rd w y f.b)
    (LK : ∀ w', Below w.heap.size w w' → Calls Try.prog 42 #[.pointer (some ⟨b, 1, none⟩), .func (.func 34) #[.agg #[.int .i64 e.w, .int .i64 e.i]] #[]] w' fun r w'' => r = .returned (.tuple #[ev f y, .bool is]) ∧ Below w'.heap.size w' w'') :
    Calls Try.prog 26 #[ptr b, ev e x] w fun r w' => r = .returned (.int .i64 (if is = true then (if sameB f e = true then 8 else 9) else 0)) ∧ Below w.heap.size w w' := by
  have PL := fun w' (h : Rd w' x e.b) => placeOf_any w' e x h
  have SM := fun w' (h : Rd w' y f.b) (h' : Rd w' x e.b) => sameE_any w' f e y x h h'
  have HX : Hid (Rd w x e.b) := hx
  have HY : Hid (Rd w y f.b) := hy
  generalize sameB f e = sb at *
  obtain ⟨ax, cx, hxx⟩ := hx.len
  subst hxx
  obtain ⟨ay, cy, hyy⟩ := hy.len
  subst hyy
  obtain ⟨ew, ei, ep, et, eu, en, eb, eg⟩ := e
  obtain ⟨fw, fi, fp, ft, fu, fn, fb, fg⟩ := f
  unfold ev at *
  dsimp only at *
  have HPL : Hid (_) := PL
  have HSM : Hid (_) := SM
  have HLK : Hid (_) := LK
  clear PL SM LK hx hy
  obtain ⟨w1, hw1⟩ : ∃ w1, w1 = w.alloc (.cells #[.int .i64 ew, .int .i64 ei, .int .u64 ep, .int .i64 et, .int .i64 eu, .int .i64 en, .slice ax eb.length cx, .int .u64 eg] 38) := ⟨_, rfl⟩
  have HB1 : Hid (Below w.heap.size w w1) := by show Below _ _ _; rw [hw1]; exact balloc (Below.refl _ _) _
  have HX1 : Hid (Blk w1 w.heap.size 38 [.int .i64 ew, .int .i64 ei, .int .u64 ep, .int .i64 et, .int .i64 eu, .int .i64 en, .slice ax eb.length cx, .int .u64 eg]) := by show Blk _ _ _ _; rw [hw1]; exact blk_new w _ 38
  go_enter Try.func26, Try.ntmps26
  go_upto_region 1 with fail
  rw [← hw1]
  obtain ⟨n, hn⟩ : ∃ n, n = w.heap.size := ⟨_, rfl⟩
  rw [← hn] at HX1 ⊢
  clear hw1 hn
  have c0 := fun z : WIn (fun w' => Below w1.heap.size w1 w') => (HX1.out.below z.ok).cell 0 _ rfl
  have c1 := fun z : WIn (fun w' => Below w1.heap.size w1 w') => (HX1.out.below z.ok).cell 1 _ rfl
  have c2 := fun z : WIn (fun w' => Below w1.heap.size w1 w') => (HX1.out.below z.ok).cell 2 _ rfl
  have c3 := fun z : WIn (fun w' => Below w1.heap.size w1 w') => (HX1.out.below z.ok).cell 3 _ rfl
  have c4 := fun z : WIn (fun w' => Below w1.heap.size w1 w') => (HX1.out.below z.ok).cell 4 _ rfl
  have c5 := fun z : WIn (fun w' => Below w1.heap.size w1 w') => (HX1.out.below z.ok).cell 5 _ rfl
  have c6 := fun z : WIn (fun w' => Below w1.heap.size w1 w') => (HX1.out.below z.ok).cell 6 _ rfl
  have c7 := fun z : WIn (fun w' => Below w1.heap.size w1 w') => (HX1.out.below z.ok).cell 7 _ rfl
  have ne : Nonempty (WIn (fun w' => Below w1.heap.size w1 w')) := ⟨⟨w1, Below.refl _ _⟩⟩
  refine wp_region_tree (C := fun w' => ∃ z : WIn (fun w' => Below w1.heap.size w1 w'), w' = z.w)
    (.still 0 (.still 1 (.still 2 (.still 3 (.two 4 (.two 5 (.two 6 (.still 7 (.still 8 (.still 9 (.one 10 (.one 11 (.still 12 .done)))))) 10 (.one 6 (.still 7 (.still 8 (.still 9 (.one 11 (.still 12 .done))))))) 10 (.one 5 (.one 6 (.still 7 (.still 8 (.still 9 (.one 11 (.still 12 .done)))))))) 10 (.one 4 (.one 5 (.one 6 (.still 7 (.still 8 (.still 9 (.one 11 (.still 12 .done)))))))))))))
    (by kernel_rfl) (by kernel_rfl) ⟨⟨w1.drew, (Below.refl _ _).drew⟩, rfl⟩ ?_
  have HBd : Hid (Below w1.heap.size w1 w1.drew) := (show Below _ _ _ from (Below.refl _ _).drew)
  have HRd : Hid (Rd w1.drew (.slice ax eb.length cx) eb) := (show Rd w1 _ _ from HX.out.below HB1.out)
  generalize w1.drew = wd at *
  iterate 4 (refine tree_still rfl rfl ?_; go_big_quiet_step (fail); refine wpQuiet_nil ?_)
  refine tree_two rfl rfl rfl rfl ?w4 ?w10
  case' w4 =>
    go_simp
    refine (HPL.out wd HRd.out).mono ?_
    rintro r w2 ⟨rfl, hb2⟩
    have HB2 : Hid (Below w1.heap.size w1 w2) := bnext HBd.out hb2
    clear hb2
    refine ⟨⟨⟨w2, HB2.out⟩, rfl⟩, ?_⟩
    refine tree_two rfl rfl rfl rfl ?w45 ?w410
  case' w45 =>
    go_simp
    refine ⟨⟨⟨w2, HB2.out⟩, rfl⟩, ?_⟩
    refine tree_two rfl rfl rfl rfl ?w456 ?w4510
  case' w456 =>
    go_simp
    refine (HLK.out w2 (bnext HB1.out HB2.out)).mono ?_
    rintro r w3 ⟨rfl, hb3⟩
    have HB3 : Hid (Below w1.heap.size w1 w3) := bnext HB2.out hb3
    clear hb3
    refine ⟨⟨⟨w3, HB3.out⟩, rfl⟩, ?_⟩
    iterate 3 (refine tree_still rfl rfl ?_; go_big_quiet_step (fail); refine wpQuiet_nil ?_)
    refine tree_one rfl rfl ?_
    go_simp
    refine ⟨⟨⟨_, balloc HB3.out _⟩, rfl⟩, ?_⟩
    have HZ : Hid (w1.heap.size ≤ w3.heap.size) := HB3.out.size
    have HBz : Hid (Below w1.heap.size w1 (w3.alloc (.cells #[.int .i64 0, .int .i64 0, .int .u64 0, .int .i64 0, .int .i64 0, .int .i64 0, .slice none 0 0, .int .u64 0] 38))) := (show Below _ _ _ from balloc HB3.out _)
    have Z := blk_new w3 [.int .i64 0, .int .i64 0, .int .u64 0, .int .i64 0, .int .i64 0, .int .i64 0, .slice none 0 0, .int .u64 0] 38
    generalize w3.heap.size = zb at Z HZ ⊢
    generalize w3.alloc (.cells #[.int .i64 0, .int .i64 0, .int .u64 0, .int .i64 0, .int .i64 0, .int .i64 0, .slice none 0 0, .int .u64 0] 38) = wz at Z HBz ⊢
  case' w4510 =>
    go_simp
    refine ⟨⟨⟨_, balloc HB2.out _⟩, rfl⟩, ?_⟩
    have HZ : Hid (w1.heap.size ≤ w2.heap.size) := HB2.out.size
    have HBy : Hid (Below w1.heap.size w1 (w2.alloc (.cells #[.int .i64 0, .int .i64 0, .int .u64 0, .int .i64 0, .int .i64 0, .int .i64 0, .slice none 0 0, .int .u64 0] 38))) := (show Below _ _ _ from balloc HB2.out _)
    have HZ0 : Hid (Blk (w2.alloc (.cells #[.int .i64 0, .int .i64 0, .int .u64 0, .int .i64 0, .int .i64 0, .int .i64 0, .slice none 0 0, .int .u64 0] 38)) w2.heap.size 38 [.int .i64 0, .int .i64 0, .int .u64 0, .int .i64 0, .int .i64 0, .int .i64 0, .slice none 0 0, .int .u64 0]) := blk_new w2 [.int .i64 0, .int .i64 0, .int .u64 0, .int .i64 0, .int .i64 0, .int .i64 0, .slice none 0 0, .int .u64 0] 38
    generalize w2.heap.size = zb at HZ0 HZ ⊢
    generalize w2.alloc (.cells #[.int .i64 0, .int .i64 0, .int .u64 0, .int .i64 0, .int .i64 0, .int .i64 0, .slice none 0 0, .int .u64 0] 38) = wy at HZ0 HBy ⊢
    refine tree_one rfl rfl ?_
    go_simp
    refine (HLK.out wy (bnext HB1.out HBy.out)).mono ?_
    rintro r w3 ⟨rfl, hb3⟩
    have HB3 : Hid (Below w1.heap.size w1 w3) := bnext HBy.out hb3
    have Z := HZ0.out.below hb3
    clear hb3 HZ0
    refine ⟨⟨⟨w3, HB3.out⟩, rfl⟩, ?_⟩
    iterate 3 (refine tree_still rfl rfl ?_; go_big_quiet_step (fail); refine wpQuiet_nil ?_)
    have HBz : Hid (Below w1.heap.size w1 w3) := HB3
    generalize w3 = wz at Z HBz ⊢
  case' w410 =>
    go_simp
    refine ⟨⟨⟨_, balloc HB2.out _⟩, rfl⟩, ?_⟩
    have HZ : Hid (w1.heap.size ≤ w2.heap.size) := HB2.out.size
    have HBy : Hid (Below w1.heap.size w1 (w2.alloc (.cells #[.int .i64 0, .int .i64 0, .int .u64 0, .int .i64 0, .int .i64 0, .int .i64 0, .slice none 0 0, .int .u64 0] 38))) := (show Below _ _ _ from balloc HB2.out _)
    have HZ0 : Hid (Blk (w2.alloc (.cells #[.int .i64 0, .int .i64 0, .int .u64 0, .int .i64 0, .int .i64 0, .int .i64 0, .slice none 0 0, .int .u64 0] 38)) w2.heap.size 38 [.int .i64 0, .int .i64 0, .int .u64 0, .int .i64 0, .int .i64 0, .int .i64 0, .slice none 0 0, .int .u64 0]) := blk_new w2 [.int .i64 0, .int .i64 0, .int .u64 0, .int .i64 0, .int .i64 0, .int .i64 0, .slice none 0 0, .int .u64 0] 38
    generalize w2.heap.size = zb at HZ0 HZ ⊢
    generalize w2.alloc (.cells #[.int .i64 0, .int .i64 0, .int .u64 0, .int .i64 0, .int .i64 0, .int .i64 0, .slice none 0 0, .int .u64 0] 38) = wy at HZ0 HBy ⊢
    refine tree_one rfl rfl ?_
    go_simp
    refine ⟨⟨⟨wy, HBy.out⟩, rfl⟩, ?_⟩
    refine tree_one rfl rfl ?_
    go_simp
    refine (HLK.out wy (bnext HB1.out HBy.out)).mono ?_
    rintro r w3 ⟨rfl, hb3⟩
    have HB3 : Hid (Below w1.heap.size w1 w3) := bnext HBy.out hb3
    have Z := HZ0.out.below hb3
    clear hb3 HZ0
    refine ⟨⟨⟨w3, HB3.out⟩, rfl⟩, ?_⟩
    iterate 3 (refine tree_still rfl rfl ?_; go_big_quiet_step (fail); refine wpQuiet_nil ?_)
    have HBz : Hid (Below w1.heap.size w1 w3) := HB3
    generalize w3 = wz at Z HBz ⊢
  case' w10 =>
    go_simp
    refine ⟨⟨⟨_, balloc HBd.out _⟩, rfl⟩, ?_⟩
    have HZ : Hid (w1.heap.size ≤ wd.heap.size) := HBd.out.size
    have HBy : Hid (Below w1.heap.size w1 (wd.alloc (.cells #[.int .i64 0, .int .i64 0, .int .u64 0, .int .i64 0, .int .i64 0, .int .i64 0, .slice none 0 0, .int .u64 0] 38))) := (show Below _ _ _ from balloc HBd.out _)
    have HRy : Hid (Rd (wd.alloc (.cells #[.int .i64 0, .int .i64 0, .int .u64 0, .int .i64 0, .int .i64 0, .int .i64 0, .slice none 0 0, .int .u64 0] 38)) (.slice ax eb.length cx) eb) := HRd.out.below (balloc (Below.refl _ _) _)
    have HZ0 : Hid (Blk (wd.alloc (.cells #[.int .i64 0, .int .i64 0, .int .u64 0, .int .i64 0, .int .i64 0, .int .i64 0, .slice none 0 0, .int .u64 0] 38)) wd.heap.size 38 [.int .i64 0, .int .i64 0, .int .u64 0, .int .i64 0, .int .i64 0, .int .i64 0, .slice none 0 0, .int .u64 0]) := blk_new wd [.int .i64 0, .int .i64 0, .int .u64 0, .int .i64 0, .int .i64 0, .int .i64 0, .slice none 0 0, .int .u64 0] 38
    generalize wd.heap.size = zb at HZ0 HZ ⊢
    generalize wd.alloc (.cells #[.int .i64 0, .int .i64 0, .int .u64 0, .int .i64 0, .int .i64 0, .int .i64 0, .slice none 0 0, .int .u64 0] 38) = wy at HZ0 HBy HRy ⊢
    refine tree_one rfl rfl ?_
    go_simp
    refine (HPL.out wy HRy.out).mono ?_
    rintro r w2 ⟨rfl, hb2⟩
    have HB2 : Hid (Below w1.heap.size w1 w2) := bnext HBy.out hb2
    have HZ1 : Hid (Blk w2 zb 38 [.int .i64 0, .int .i64 0, .int .u64 0, .int .i64 0, .int .i64 0, .int .i64 0, .slice none 0 0, .int .u64 0]) := HZ0.out.below hb2
    clear hb2 HZ0
    refine ⟨⟨⟨w2, HB2.out⟩, rfl⟩, ?_⟩
    refine tree_one rfl rfl ?_
    go_simp
    refine ⟨⟨⟨w2, HB2.out⟩, rfl⟩, ?_⟩
    refine tree_one rfl rfl ?_
    go_simp
    refine (HLK.out w2 (bnext HB1.out HB2.out)).mono ?_
    rintro r w3 ⟨rfl, hb3⟩
    have HB3 : Hid (Below w1.heap.size w1 w3) := bnext HB2.out hb3
    have Z := HZ1.out.below hb3
    clear hb3 HZ1
    refine ⟨⟨⟨w3, HB3.out⟩, rfl⟩, ?_⟩
    iterate 3 (refine tree_still rfl rfl ?_; go_big_quiet_step (fail); refine wpQuiet_nil ?_)
    have HBz : Hid (Below w1.heap.size w1 w3) := HB3
    generalize w3 = wz at Z HBz ⊢
  all_goals
    have z0 := Z.cell 0 _ rfl; have z1 := Z.cell 1 _ rfl; have z2 := Z.cell 2 _ rfl; have z3 := Z.cell 3 _ rfl; have z4 := Z.cell 4 _ rfl; have z5 := Z.cell 5 _ rfl; have z6 := Z.cell 6 _ rfl; have z7 := Z.cell 7 _ rfl
    have k0 := Z.frozen 0; have k1 := Z.frozen 1; have k2 := Z.frozen 2; have k3 := Z.frozen 3; have k4 := Z.frozen 4; have k5 := Z.frozen 5; have k6 := Z.frozen 6; have k7 := Z.frozen 7
    have HZb : Hid (Blk wz zb 38 [.int .i64 0, .int .i64 0, .int .u64 0, .int .i64 0, .int .i64 0, .int .i64 0, .slice none 0 0, .int .u64 0]) := Z
    clear Z
    refine tree_one rfl rfl ?_
    go_simp
    have HS := HZb.out.set8 (.int .i64 fw) (.int .i64 fi) (.int .u64 fp) (.int .i64 ft) (.int .i64 fu) (.int .i64 fn) (.slice ay fb.length cy) (.int .u64 fg)
    have HG := bgrown HBz.out (by have := HZ.out; exact this) (grown_set8 wz zb (.int .i64 fw) (.int .i64 fi) (.int .u64 fp) (.int .i64 ft) (.int .i64 fu) (.int .i64 fn) (.slice ay fb.length cy) (.int .u64 fg))
    refine ⟨⟨⟨_, HG⟩, rfl⟩, ?_⟩
    have HG' : Hid (_) := HG
    clear HG z0 z1 z2 z3 z4 z5 z6 z7 k0 k1 k2 k3 k4 k5 k6 k7 HZb HBz
    refine tree_still rfl rfl ?_
    go_big_quiet_step (fail)
    refine wpQuiet_nil ?_
    refine tree_done ?_
    clear c0 c1 c2 c3 c4 c5 c6 c7 ne
    generalize (((((((wz.setCell ⟨zb, 0, none⟩ (.int .i64 fw)).setCell ⟨zb, 1, none⟩ (.int .i64 fi)).setCell ⟨zb, 2, none⟩ (.int .u64 fp)).setCell ⟨zb, 3, none⟩ (.int .i64 ft)).setCell ⟨zb, 4, none⟩ (.int .i64 fu)).setCell ⟨zb, 5, none⟩ (.int .i64 fn)).setCell ⟨zb, 6, none⟩ (.slice ay fb.length cy)).setCell ⟨zb, 7, none⟩ (.int .u64 fg) = w9 at *
    have y0 := HS.cell 0 _ rfl; have y1 := HS.cell 1 _ rfl; have y2 := HS.cell 2 _ rfl; have y3 := HS.cell 3 _ rfl; have y4 := HS.cell 4 _ rfl; have y5 := HS.cell 5 _ rfl; have y6 := HS.cell 6 _ rfl; have y7 := HS.cell 7 _ rfl
    have HN9 : Hid (Blk w9 n 38 [.int .i64 ew, .int .i64 ei, .int .u64 ep, .int .i64 et, .int .i64 eu, .int .i64 en, .slice ax eb.length cx, .int .u64 eg]) := HX1.out.below HG'.out
    have x0 := HN9.out.cell 0 _ rfl; have x1 := HN9.out.cell 1 _ rfl; have x2 := HN9.out.cell 2 _ rfl; have x3 := HN9.out.cell 3 _ rfl; have x4 := HN9.out.cell 4 _ rfl; have x5 := HN9.out.cell 5 _ rfl; have x6 := HN9.out.cell 6 _ rfl; have x7 := HN9.out.cell 7 _ rfl
    clear HS
    cases is
    · go_wp2
      go_ret
      exact ⟨rfl, bnext HB1.out HG'.out⟩
    · cases sb
      · go_wp2_with (go_at_call 44; go_must (refine (HSM.out w9 (HY.out.below (bnext HB1.out HG'.out)) (HX.out.below (bnext HB1.out HG'.out))).mono ?_; rintro r w5 ⟨rfl, hb5⟩))
        go_ret
        exact ⟨rfl, bnext (bnext HB1.out HG'.out) hb5⟩
      · go_wp2_with (go_at_call 44; go_must (refine (HSM.out w9 (HY.out.below (bnext HB1.out HG'.out)) (HX.out.below (bnext HB1.out HG'.out))).mono ?_; rintro r w5 ⟨rfl, hb5⟩))
        go_ret
        exact ⟨rfl, bnext (bnext HB1.out HG'.out) hb5⟩
end Go.Proofs.Ytigfklcclfpcjaa
