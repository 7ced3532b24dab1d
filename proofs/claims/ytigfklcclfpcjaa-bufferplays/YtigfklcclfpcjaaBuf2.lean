/-
  Hold.
-/
import Derived.Test.YtigfklcclfpcjaaBuf1
namespace Go.Proofs.Ytigfklcclfpcjaa
set_option linter.unusedVariables false
set_option linter.unusedSimpArgs false
set_option synthInstance.maxSize 20000
set_option maxHeartbeats 400000
set_option maxRecDepth 20000
open Go.RowKit Go.Maps

/-- What is wrong where something is at e's place. -/
def metM (M : List Ent) (e : Ent) : Int := match findM M e.w e.i with
  | none => 0
  | some f => if sameB f e = true then 8 else 9

section
variable {w : World} {o : Nat → Nat} {j b : Nat} {most : Int} {v : Value} {ps : List (Ent × Value)} {M : List Ent}
theorem BufAt.rds (h : BufAt w o j b most v ps M) : ∀ q ∈ ps, Rd w q.2 q.1.b := fun q hq => (h.q.ents q hq).2.1
theorem BufAt.none (h : BufAt w o j b most v ps M) {a i : Int} (hf : findM M a i = .none) : ∀ q ∈ ps, atB a i q.1 = false := fun q hq => findM_none hf _ (h.has.mem hq)
theorem BufAt.some (h : BufAt w o j b most v ps M) {a i : Int} {e : Ent} (hf : findM M a i = .some e) : ∃ (k : Nat) (x : Value), ps[k]? = .some (e, x) ∧ ∀ m p, m < k → ps[m]? = .some p → atB a i p.1 = false := by
  obtain ⟨h1, h2, h3⟩ := findM_some hf
  obtain ⟨x, hx⟩ := h.has.of_mem h1
  obtain ⟨k, q, hk, hq, hb⟩ := first_of (P := atB a i) ⟨(e, x), hx, (atB_iff _ _ _).2 ⟨h2, h3⟩⟩
  have hq' := (atB_iff _ _ _).1 hq
  have : q.1 = e := srt_uniq h.has.srt (h.has.mem (List.mem_of_getElem? hk)) h1 (by omega) (by omega)
  refine ⟨k, q.2, ?_, hb⟩
  rw [hk, ← this]

theorem len1 (x : Value) : ([x] : List Value).length = 1 := rfl
theorem unmet_any {e : Ent} {x : Value} (h : BufAt w o j b most v ps M) (hx : Rd w x e.b) : Calls Try.prog 26 #[ptr b, ev e x] w fun r w' => r = .returned (.int .i64 (metM M e)) ∧ Below w.heap.size w w' := by
  have EQ : ∀ K : Int, metM M e = K → (Calls Try.prog 26 #[ptr b, ev e x] w fun r w' => r = .returned (.int .i64 K) ∧ Below w.heap.size w w') → Calls Try.prog 26 #[ptr b, ev e x] w fun r w' => r = .returned (.int .i64 (metM M e)) ∧ Below w.heap.size w w' := fun K hK hc => by rw [hK]; exact hc
  cases hf : findM M e.w e.i with
  | none =>
    have LK : ∀ w', Below w.heap.size w w' → Calls Try.prog 42 #[.pointer (some ⟨b, 1, none⟩), .func (.func 34) #[.agg #[.int .i64 e.w, .int .i64 e.i]] #[]] w' fun r w'' => r = .returned (.tuple #[ev zeroE (.slice none 0 0), .bool false]) ∧ Below w'.heap.size w' w'' := fun w' hb => by
      have h1 := h.below hb
      have IX : ∀ w2, Below w'.heap.size w' w2 → Calls Try.prog 48 #[v, .func (.func 34) #[.agg #[.int .i64 e.w, .int .i64 e.i]] #[]] w2 fun r w3 => r = .returned (.int .i64 (-1)) ∧ Below w2.heap.size w2 w3 := fun w2 hb2 => idxAt_none (h1.below hb2).q.rowE (h1.below hb2).rds _ _ ((h1.below hb2).none hf)
      have L := look_none h1.q IX
      rw [len1] at L
      exact L
    refine EQ 0 (by unfold metM; rw [hf]) ?_
    have U := unmet_core hx (rd_nil w) LK
    rw [if_neg (by simp)] at U
    exact U
  | some f =>
    obtain ⟨k, y, hk, hbf⟩ := h.some hf
    have hat : atB e.w e.i (f, y).1 = true := (atB_iff _ _ _).2 (findM_some hf).2
    have LK : ∀ w', Below w.heap.size w w' → Calls Try.prog 42 #[.pointer (some ⟨b, 1, none⟩), .func (.func 34) #[.agg #[.int .i64 e.w, .int .i64 e.i]] #[]] w' fun r w'' => r = .returned (.tuple #[ev f y, .bool true]) ∧ Below w'.heap.size w' w'' := fun w' hb => by
      have h1 := h.below hb
      have IX : ∀ w2, Below w'.heap.size w' w2 → Calls Try.prog 48 #[v, .func (.func 34) #[.agg #[.int .i64 e.w, .int .i64 e.i]] #[]] w2 fun r w3 => r = .returned (.int .i64 (k : Int)) ∧ Below w2.heap.size w2 w3 := fun w2 hb2 => idxAt_hit (h1.below hb2).q.rowE (h1.below hb2).rds _ _ hk hat hbf
      have L := look_hit h1.q hk IX
      rw [len1] at L
      exact L
    refine EQ (if sameB f e = true then 8 else 9) (by unfold metM; rw [hf]) ?_
    have U := unmet_core hx (h.rds _ (List.mem_of_getElem? hk)) LK
    rw [if_pos rfl] at U
    exact U
end

theorem hold_bad {w : World} {o : Nat → Nat} {b : Nat} {e : Ent} {x : Value} (hx : Rd w x e.b) (hr : rightB e = false) : Calls Try.prog 10 #[ptr b, ev e x] w fun r w' => r = .returned (.int .i64 1) ∧ Below w.heap.size w w' := by
  have RT := fun w' (h : Rd w' x e.b) => rightE_any e x w' h
  rw [hr] at RT
  have HX : Hid (Rd w x e.b) := hx
  obtain ⟨ax, cx, hxx⟩ := hx.len
  subst hxx
  obtain ⟨ew, ei, ep, et, eu, en, eb, eg⟩ := e
  unfold ev at *
  dsimp only at *
  have HRT : Hid (_) := RT
  clear RT hx hr
  go_enter Try.func10, Try.ntmps10
  go_wp2_with (go_at_call 25; go_must (refine (HRT.out _ (HX.out.below (balloc (Below.refl _ _) _))).mono ?_; rintro r w2 ⟨rfl, hb2⟩))
  go_ret
  exact ⟨rfl, bnext (balloc (Below.refl _ _) _) hb2⟩

theorem hold_nil {w : World} {e : Ent} {x : Value} (hx : Rd w x e.b) : Calls Try.prog 10 #[.pointer none, ev e x] w fun r w' => r = .returned (.int .i64 23) ∧ Below w.heap.size w w' := by
  obtain ⟨ax, cx, hxx⟩ := hx.len
  subst hxx
  obtain ⟨ew, ei, ep, et, eu, en, eb, eg⟩ := e
  unfold ev at *
  dsimp only at *
  clear hx
  go_enter Try.func10, Try.ntmps10
  go_wp2
  go_ret
  exact ⟨rfl, balloc (Below.refl _ _) _⟩

/-- All is well with e, but what is at its place? -/
theorem hold_met {w : World} {o : Nat → Nat} {j b : Nat} {most : Int} {v : Value} {ps : List (Ent × Value)} {M : List Ent} {e : Ent} {x : Value} (h : BufAt w o j b most v ps M) (hx : Rd w x e.b) (hr : rightB e = true) (hm : metM M e ≠ 0) :
    Calls Try.prog 10 #[ptr b, ev e x] w fun r w' => r = .returned (.int .i64 (metM M e)) ∧ Below w.heap.size w w' := by
  have RT := fun w' (h : Rd w' x e.b) => rightE_any e x w' h
  rw [hr] at RT
  have UM := fun w' (hb : Below w.heap.size w w') => unmet_any (e := e) (x := x) (h.below hb) (hx.below hb)
  generalize metM M e = K at *
  have hK : (K != 0) = true := by simpa using hm
  have HX : Hid (Rd w x e.b) := hx
  obtain ⟨ax, cx, hxx⟩ := hx.len
  subst hxx
  obtain ⟨ew, ei, ep, et, eu, en, eb, eg⟩ := e
  unfold ev at *
  dsimp only at *
  have HRT : Hid (_) := RT
  have HUM : Hid (_) := UM
  obtain ⟨w1, hw1⟩ : ∃ w1, w1 = w.alloc (.cells #[.int .i64 ew, .int .i64 ei, .int .u64 ep, .int .i64 et, .int .i64 eu, .int .i64 en, .slice ax eb.length cx, .int .u64 eg] 38) := ⟨_, rfl⟩
  have HB1 : Hid (Below w.heap.size w w1) := by show Below _ _ _; rw [hw1]; exact balloc (Below.refl _ _) _
  have HX1 : Hid (Blk w1 w.heap.size 38 [.int .i64 ew, .int .i64 ei, .int .u64 ep, .int .i64 et, .int .i64 eu, .int .i64 en, .slice ax eb.length cx, .int .u64 eg]) := by show Blk _ _ _ _; rw [hw1]; exact blk_new w _ 38
  clear RT UM hx hr h hm
  go_enter Try.func10, Try.ntmps10
  go_upto_region 1 with fail
  rw [← hw1]
  obtain ⟨n, hn⟩ : ∃ n, n = w.heap.size := ⟨_, rfl⟩
  rw [← hn] at HX1 ⊢
  clear hw1 hn
  have c0 := HX1.out.cell 0 _ rfl; have c1 := HX1.out.cell 1 _ rfl; have c2 := HX1.out.cell 2 _ rfl; have c3 := HX1.out.cell 3 _ rfl; have c4 := HX1.out.cell 4 _ rfl; have c5 := HX1.out.cell 5 _ rfl; have c6 := HX1.out.cell 6 _ rfl; have c7 := HX1.out.cell 7 _ rfl
  go_wp2_with (first
    | (go_at_call 25; go_must (refine (HRT.out w1 (HX.out.below HB1.out)).mono ?_; rintro r w2 ⟨rfl, hb2⟩; have HB2 : Hid (Below w.heap.size w w2) := bnext HB1.out hb2; have X2 := HX1.out.below hb2; have d0 := X2.cell 0 _ rfl; have d1 := X2.cell 1 _ rfl; have d2 := X2.cell 2 _ rfl; have d3 := X2.cell 3 _ rfl; have d4 := X2.cell 4 _ rfl; have d5 := X2.cell 5 _ rfl; have d6 := X2.cell 6 _ rfl; have d7 := X2.cell 7 _ rfl; clear hb2 X2))
    | (go_at_call 26; go_must (refine (HUM.out w2 HB2.out).mono ?_; rintro r w3 ⟨rfl, hb3⟩)))
  go_ret
  exact ⟨rfl, bnext HB2.out hb3⟩

/-- Nothing is at its place: is there room? -/
theorem hold_free {w : World} {o : Nat → Nat} {j b : Nat} {most : Int} {v : Value} {ps : List (Ent × Value)} {M : List Ent} {e : Ent} {x : Value} (h : BufAt w o j b most v ps M) (hj0 : j ≠ 0) (he : EOk e) (hx : Kp0 w o x e.b) (hr : rightB e = true) (hm : metM M e = 0) (full : Bool) (hfull : full = true ↔ most ≤ M.length) :
    Calls Try.prog 10 #[ptr b, ev e x] w fun r w' => r = .returned (.int .i64 (if full = true then 3 else 0)) ∧ Hid (if full = true then Below w.heap.size w w' else QMoved w o w' j b 61 [.int .i64 most] (fun qs => ∃ y, Heaped (ps ++ [(e, y)]) qs)) := by
  have hlen : e.b.length ≤ 1100 := ((rightB_iff e).1 hr).2.2.2.2.2.2
  have RT := fun w' (h : Rd w' x e.b) => rightE_any e x w' h
  rw [hr] at RT
  have UM := fun w' (hb : Below w.heap.size w w') => unmet_any (e := e) (x := x) (h.below hb) (hx.1.below hb)
  rw [hm] at UM
  have CP := fun w' (hb : Below w.heap.size w w') => copied_mv (w := w'.drew) (o := newTo o w 0) (e := e) (x := x) (hx.mv (mv_drew (Mv.of_below (I := []) 0 hb)) (by simp)) (by omega)
  have PT := fun (w4 w5 : World) (y : Value) (hb4 : Below w.heap.size w w4) (hb5 : Below w4.drew.heap.size w4.drew w5) (hy : Kp0 w5 (newTo (newTo o w 0) w4.drew 0) y e.b) => put_any (e := e) (x := y) (((h.below hb4).mv (mv_drewn (I := []) w4 _) (by simp) (by simp)).below hb5).q hj0 he hy (by have := h.pslen; omega) h.has.heap
  have FI := fun (w4 w5 w6 : World) (y : Value) (hb4 : Below w.heap.size w w4) (hb5 : Below w4.drew.heap.size w4.drew w5) (hq : QMoved w5 (newTo (newTo o w 0) w4.drew 0) w6 j b 61 [.int .i64 most] (Heaped (ps ++ [(e, y)]))) => (show QMoved w o w6 j b 61 [.int .i64 most] (fun qs => ∃ y, Heaped (ps ++ [(e, y)]) qs) from by
    obtain ⟨o6, qs, h1, h2, h3⟩ := hq
    exact ⟨o6, qs, h1, ((mv_drew (Mv.of_below 0 hb4)).trans (Mv.of_below 0 hb5)).trans h2, y, h3⟩)
  have HBk : Hid (∀ w3, Below w.heap.size w w3 → Blk w3 b 61 [.int .i64 most, v]) := fun w3 hb => (h.below hb).q.blk
  obtain ⟨av, cv, hvv, hcv⟩ := slice_of_own h.q.row
  rw [h.has.len] at hvv hcv
  subst hvv
  have hml : M.length ≤ 16 := by have := h.pslen; rw [h.has.len] at this; exact this
  have HX : Hid (Rd w x e.b) := hx.1
  obtain ⟨ax, cx, hxx⟩ := hx.1.len
  subst hxx
  obtain ⟨ew, ei, ep, et, eu, en, eb, eg⟩ := e
  unfold ev at *
  dsimp only at *
  have HRT : Hid (_) := RT
  have HUM : Hid (_) := UM
  have HCP : Hid (_) := CP
  have HPT : Hid (∀ (w4 w5 : World) (y : Value), Below w.heap.size w w4 → Below w4.drew.heap.size w4.drew w5 → Kp0 w5 (newTo (newTo o w 0) w4.drew 0) y eb → Calls Try.prog 28 #[.pointer (some ⟨b, 1, none⟩), .agg #[.int .i64 ew, .int .i64 ei, .int .u64 ep, .int .i64 et, .int .i64 eu, .int .i64 en, y, .int .u64 eg]] w5 fun r w' => r = .returned (.tuple #[]) ∧ QMoved w5 (newTo (newTo o w 0) w4.drew 0) w' j b 61 [.int .i64 most] (Heaped (ps ++ [((⟨ew, ei, ep, et, eu, en, eb, eg⟩ : Ent), y)]))) := PT
  have HFI : Hid (_) := FI
  obtain ⟨w1, hw1⟩ : ∃ w1, w1 = w.alloc (.cells #[.int .i64 ew, .int .i64 ei, .int .u64 ep, .int .i64 et, .int .i64 eu, .int .i64 en, .slice ax eb.length cx, .int .u64 eg] 38) := ⟨_, rfl⟩
  have HB1 : Hid (Below w.heap.size w w1) := by show Below _ _ _; rw [hw1]; exact balloc (Below.refl _ _) _
  have HX1 : Hid (Blk w1 w.heap.size 38 [.int .i64 ew, .int .i64 ei, .int .u64 ep, .int .i64 et, .int .i64 eu, .int .i64 en, .slice ax eb.length cx, .int .u64 eg]) := by show Blk _ _ _ _; rw [hw1]; exact blk_new w _ 38
  have HFl : Hid (full = true ↔ most ≤ M.length) := hfull
  clear RT UM CP PT FI hx hr h hm he hlen hfull
  go_enter Try.func10, Try.ntmps10
  go_upto_region 1 with fail
  rw [← hw1]
  obtain ⟨n, hn⟩ : ∃ n, n = w.heap.size := ⟨_, rfl⟩
  rw [← hn] at HX1 ⊢
  clear hw1 hn
  have c0 := HX1.out.cell 0 _ rfl; have c1 := HX1.out.cell 1 _ rfl; have c2 := HX1.out.cell 2 _ rfl; have c3 := HX1.out.cell 3 _ rfl; have c4 := HX1.out.cell 4 _ rfl; have c5 := HX1.out.cell 5 _ rfl; have c6 := HX1.out.cell 6 _ rfl; have c7 := HX1.out.cell 7 _ rfl
  go_upto_region 8 with (first
    | (go_at_call 25; go_must (refine (HRT.out w1 (HX.out.below HB1.out)).mono ?_; rintro r w2 ⟨rfl, hb2⟩; have HB2 : Hid (Below w.heap.size w w2) := bnext HB1.out hb2; have HX2 : Hid (Blk w2 n 38 [.int .i64 ew, .int .i64 ei, .int .u64 ep, .int .i64 et, .int .i64 eu, .int .i64 en, .slice ax eb.length cx, .int .u64 eg]) := HX1.out.below hb2; have d0 := HX2.out.cell 0 _ rfl; have d1 := HX2.out.cell 1 _ rfl; have d2 := HX2.out.cell 2 _ rfl; have d3 := HX2.out.cell 3 _ rfl; have d4 := HX2.out.cell 4 _ rfl; have d5 := HX2.out.cell 5 _ rfl; have d6 := HX2.out.cell 6 _ rfl; have d7 := HX2.out.cell 7 _ rfl; clear hb2))
    | (go_at_call 26; go_must (refine (HUM.out w2 HB2.out).mono ?_; rintro r w3 ⟨rfl, hb3⟩; have HB3 : Hid (Below w.heap.size w w3) := bnext HB2.out hb3; have HX3 : Hid (Blk w3 n 38 [.int .i64 ew, .int .i64 ei, .int .u64 ep, .int .i64 et, .int .i64 eu, .int .i64 en, .slice ax eb.length cx, .int .u64 eg]) := HX2.out.below hb3; clear hb3)))
  clear c0 c1 c2 c3 c4 c5 c6 c7 d0 d1 d2 d3 d4 d5 d6 d7
  have k0 := fun z : WIn (fun w' => Below w3.heap.size w3 w') => (HBk.out z.w (bnext HB3.out z.ok)).cell 0 _ rfl
  have k1 := fun z : WIn (fun w' => Below w3.heap.size w3 w') => (HBk.out z.w (bnext HB3.out z.ok)).cell 1 _ rfl
  have ne : Nonempty (WIn (fun w' => Below w3.heap.size w3 w')) := ⟨⟨w3, Below.refl _ _⟩⟩
  refine wp_region_ord (C := fun w' => ∃ z : WIn (fun w' => Below w3.heap.size w3 w'), w' = z.w) [(false, 0), (false, 1), (false, 2), (false, 3), (false, 4), (false, 6), (false, 7), (false, 8), (false, 9), (true, 5), (false, 10)] (by kernel_rfl) (by kernel_rfl) ⟨⟨w3.drew, (Below.refl _ _).drew⟩, rfl⟩ ?_
  iterate 9 (refine ord_still rfl rfl ?_; go_big_quiet_step (fail); refine wpQuiet_nil ?_)
  refine ord_mem rfl rfl ?_
  go_simp
  refine (len_any _ _ _ _).mono ?_
  rintro r w4 ⟨rfl, hw4⟩
  have HB4 : Hid (Below w.heap.size w w4) := (show Below _ _ _ from by rw [hw4]; exact HB3.out.drew)
  have HX4 : Hid (Blk w4 n 38 [.int .i64 ew, .int .i64 ei, .int .u64 ep, .int .i64 et, .int .i64 eu, .int .i64 en, .slice ax eb.length cx, .int .u64 eg]) := (show Blk _ _ _ _ from by rw [hw4]; exact HX3.out)
  have HC4 : Hid (Below w3.heap.size w3 w4) := (show Below _ _ _ from by rw [hw4]; exact (Below.refl _ _).drew)
  clear hw4
  refine ⟨⟨⟨w4, HC4.out⟩, rfl⟩, ?_⟩
  cases full
  · have hlt : (M.length : Int) < most := by
      by_cases hh : most ≤ M.length
      · have := HFl.out.2 hh
        cases this
      · omega
    refine ord_still rfl rfl ?_
    go_big_quiet_step (fail)
    refine wpQuiet_nil ?_
    refine ord_end ?_
    clear k0 k1 ne HB3 HX3 HC4
    go_upto_region 10 with fail
    refine wp_region_ord (C := fun w' => ∃ z : WIn (fun _ => True), w' = z.w) [(false, 0), (false, 1), (false, 2), (true, 3), (true, 4), (true, 5)] (by kernel_rfl) (by kernel_rfl) ⟨⟨w4.drew, trivial⟩, rfl⟩ ?_
    have ne : Nonempty (WIn (fun _ => True)) := ⟨⟨w4, trivial⟩⟩
    iterate 3 (refine ord_still rfl rfl ?_; go_big_quiet_step (fail); refine wpQuiet_nil ?_)
    have HX5 : Hid (Blk w4.drew n 38 [.int .i64 ew, .int .i64 ei, .int .u64 ep, .int .i64 et, .int .i64 eu, .int .i64 en, .slice ax eb.length cx, .int .u64 eg]) := HX4.out
    have c0 := HX5.out.cell 0 _ rfl; have c1 := HX5.out.cell 1 _ rfl; have c2 := HX5.out.cell 2 _ rfl; have c3 := HX5.out.cell 3 _ rfl; have c4 := HX5.out.cell 4 _ rfl; have c5 := HX5.out.cell 5 _ rfl; have c6 := HX5.out.cell 6 _ rfl; have c7 := HX5.out.cell 7 _ rfl
    refine ord_mem rfl rfl ?_
    go_simp
    refine ⟨⟨⟨_, trivial⟩, rfl⟩, ?_⟩
    refine ord_mem rfl rfl ?_
    go_simp
    refine (HCP.out w4 HB4.out).mono ?_
    rintro r w5 ⟨y, rfl, hy, hb5⟩
    obtain ⟨ay, cy, hyy⟩ := hy.1.len
    subst hyy
    have HY : Hid (_) := hy
    have HB5 : Hid (_) := hb5
    clear hy hb5
    refine ⟨⟨⟨_, trivial⟩, rfl⟩, ?_⟩
    refine ord_mem rfl rfl ?_
    go_simp
    refine (HPT.out w4 w5 _ HB4.out HB5.out HY.out).mono ?_
    rintro r w6 ⟨rfl, hq6⟩
    have HQ6 : Hid (_) := HFI.out w4 w5 w6 _ HB4.out HB5.out hq6
    clear hq6
    refine ⟨⟨⟨_, trivial⟩, rfl⟩, ?_⟩
    refine ord_end ?_
    go_wp2
    go_ret
    exact ⟨rfl, HQ6⟩
  · have hlt : most ≤ (M.length : Int) := HFl.out.1 rfl
    refine ord_still rfl rfl ?_
    go_big_quiet_step (fail)
    refine wpQuiet_nil ?_
    refine ord_end ?_
    clear k0 k1 ne
    go_wp2
    go_ret
    exact ⟨rfl, (show Below _ _ _ from HB4.out)⟩
end Go.Proofs.Ytigfklcclfpcjaa
