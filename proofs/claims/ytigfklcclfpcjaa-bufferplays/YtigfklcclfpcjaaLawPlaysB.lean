/-
  What each call of any script answers: the walk of BufferPlays.
-/
import Derived.Test.YtigfklcclfpcjaaPlaysB
namespace Go.Proofs.Ytigfklcclfpcjaa
set_option linter.unusedVariables false
set_option linter.unusedSimpArgs false
set_option synthInstance.maxSize 20000
set_option maxHeartbeats 2000000
set_option maxRecDepth 20000
open Go.RowKit Go.Maps

theorem plays_walk (most : Int) (v : Value) (l : List (OpB × Value)) (w : World) (hI : I64 most) (hrd : RowO w v l) :
    Calls Try.prog 3 #[.int .i64 most, v] w fun e w' => e = .returned (.bool true) ∧ Below w.heap.size w w' := by
  have HLt : Hid (Calls Try.prog 7 #[v] w fun r w' => (r = .returned (.bool true) ∨ r = .returned (.bool false)) ∧ w' = w) := light_any w v l hrd
  obtain ⟨a, cap, rfl⟩ := hrd.len
  have hcap := hrd.cap
  have HAl : Hid (∀ w', Calls Try.prog 8 #[] w' fun r w2 => r = .returned (.bool true) ∧ Below w'.heap.size w' w2) := fun w' => alive_any w'
  have HV : Hid (RowO w (.slice a l.length cap) l) := hrd
  clear hrd
  unfold I64 at hI
  by_cases hm : 1 ≤ most ∧ most ≤ 16
  · have HN : Hid (Calls Try.prog 9 #[.int .i64 most] w fun r w' => r = .returned (.tuple #[ptr w.heap.size, .int .i64 0]) ∧ BufIs w' (newTo (fun _ => 0) w 5) 5 w.heap.size most [] ∧ Below w.heap.size w w') := bnew_ok w (fun _ => 0) 5 (by omega) most hm
    have tA : Hid True := trivial
    go_enter Try.func3, Try.ntmps3
    go_wp2_with (first
      | (go_at_call 7; go_must (refine HLt.out.mono ?_; rintro r w2 ⟨hr, hw2⟩; replace hw2 := hw2.symm; subst hw2; rcases hr with hr | hr <;> subst hr))
      | (go_at_call 9; go_must (refine HN.out.mono ?_; rintro r w1 ⟨rfl, hB1, hb1⟩; have HB1 : Hid (BufIs w1 (newTo (fun _ => 0) w 5) 5 w.heap.size most []) := hB1; have HW1 : Hid (Below w.heap.size w w1) := hb1; clear hB1 hb1))
      | (go_at_call 8; go_must (refine (HAl.out _).mono ?_; rintro r w8 ⟨rfl, hb8⟩)))
    · have HS : Hid (∃ o' M, PG w (w8.alloc (.cells #[.int .i64 most, .slice none 0 0] 32)) w.heap.size w8.heap.size most o' M) := ⟨_, _, pg_start HB1.out HW1.out hb8⟩
      clear HB1 HW1 hb8 HN HLt
      generalize w8.heap.size = bR at *
      go_loopw [8] (fun i wr => ∃ k : Nat, i = .int .i64 k ∧ k ≤ l.length ∧ Hid (∃ o' M, PG w wr w.heap.size bR most o' M)) (fun i _ => l.length - (intOf i).toNat)
      case atStart => exact ⟨0, rfl, by omega, HS⟩
      case round =>
        obtain ⟨k, rfl, hk, HI⟩ := hrel
        obtain ⟨o', M, p⟩ := HI.out
        by_cases hkl : k < l.length
        · obtain ⟨q, hq⟩ : ∃ q, l[k]? = some q := ⟨_, List.getElem?_eq_getElem hkl⟩
          obtain ⟨g, off, ea, hc⟩ := HV.out.at p.below hq
          subst ea
          have hE := HV.out.1 q (List.mem_of_getElem? hq)
          have HEo : Hid (EOk q.1.e) := hE.2.2.2.1
          have hKw : Kp0 w (fun _ => 0) q.2 q.1.e.b := ⟨hE.2.2.2.2, fun _ _ _ => rfl⟩
          have hKx := hKw.mv p.mv (by simp)
          obtain ⟨ax, cx, hxx⟩ := hE.2.2.2.2.len
          have hiw := hE.2.1
          have hin := hE.2.2.1
          unfold I64 at hiw hin
          obtain ⟨⟨ok, ow, oi, e⟩, x⟩ := q
          dsimp only at *
          subst hxx
          obtain ⟨ew, ei, ep, et, eu, en, eb, eg⟩ := e
          unfold oc8 at hc
          dsimp only at *
          have r0 := hc 0 _ rfl; have r1 := hc 1 _ rfl; have r2 := hc 2 _ rfl; have r3 := hc 3 _ rfl; have r4 := hc 4 _ rfl; have r5 := hc 5 _ rfl; have r6 := hc 6 _ rfl; have r7 := hc 7 _ rfl; have r8 := hc 8 _ rfl; have r9 := hc 9 _ rfl; have r10 := hc 10 _ rfl
          simp only [Nat.add_zero] at r0
          obtain ⟨w1, hw1⟩ : ∃ w1, w1 = wr.alloc (.cells #[.int .i64 ok, .int .i64 ow, .int .i64 oi, .int .i64 ew, .int .i64 ei, .int .u64 ep, .int .i64 et, .int .i64 eu, .int .i64 en, .slice ax eb.length cx, .int .u64 eg] 40) := ⟨_, rfl⟩
          have hb1 : Below wr.heap.size wr w1 := by rw [hw1]; exact balloc (Below.refl _ _) _
          have X1 : Blk w1 wr.heap.size 40 [.int .i64 ok, .int .i64 ow, .int .i64 oi, .int .i64 ew, .int .i64 ei, .int .u64 ep, .int .i64 et, .int .i64 eu, .int .i64 en, .slice ax eb.length cx, .int .u64 eg] := by rw [hw1]; exact blk_new wr _ 40
          have HG1 : Hid (PG w w1 w.heap.size bR most (newTo o' wr 0) M) := p.past hb1
          have HKx : Hid (Kp0 w1 (newTo o' wr 0) (.slice ax eb.length cx) eb) := hKx.mv (Mv.of_below (I := []) 0 hb1) (by simp)
          have HBk : Hid (∀ w2, (∃ o2, Mv [5, 6] w1 (newTo o' wr 0) w2 o2) → Blk w2 wr.heap.size 40 [.int .i64 ok, .int .i64 ow, .int .i64 oi, .int .i64 ew, .int .i64 ei, .int .u64 ep, .int .i64 et, .int .i64 eu, .int .i64 en, .slice ax eb.length cx, .int .u64 eg]) := fun w2 ⟨o2, m⟩ => X1.block (m.block _ X1.lt (by rw [newTo_new (Nat.le_refl _)]; simp))
          have HX1 : Hid (Blk w1 wr.heap.size 40 [.int .i64 ok, .int .i64 ow, .int .i64 oi, .int .i64 ew, .int .i64 ei, .int .u64 ep, .int .i64 et, .int .i64 eu, .int .i64 en, .slice ax eb.length cx, .int .u64 eg]) := X1
          have HW1 : Hid (_ = _) := hw1
          clear HI p hq hc hE hKw hKx hw1 hb1 X1 HS
          go_upto_region 13 with fail
          rw [← HW1.out]
          clear HW1 r0 r1 r2 r3 r4 r5 r6 r7 r8 r9 r10
          generalize wr.heap.size = ob at HBk HX1 ⊢
          generalize newTo o' wr 0 = o1 at HG1 HKx HBk
          have q0 := HX1.out.cell 0 _ rfl
          by_cases k0 : ok = 0
          · subst k0
            have H1 := hold_any (e := ⟨ew, ei, ep, et, eu, en, eb, eg⟩) (x := .slice ax eb.length cx) HG1.out.drew.bufP (by omega) HEo.out (HKx.out.mv (mv_drewn (I := []) w1 o1) (by simp))
            have H2 := fun (w2 : World) (o2 : Nat → Nat) (m : Mv [5] w1.drew o1 w2 o2) => rhold_any (e := ⟨ew, ei, ep, et, eu, en, eb, eg⟩) (x := .slice ax eb.length cx) (HG1.out.drew.bufR.mv m (by simp) (by simp)) HG1.out.bufP.srt (by omega) HEo.out ((HKx.out.mv (mv_drewn (I := []) w1 o1) (by simp)).mv m (by simp)) HG1.out.bufP.len
            generalize (holdM most M ⟨ew, ei, ep, et, eu, en, eb, eg⟩).1 = K at *
            generalize (holdM most M ⟨ew, ei, ep, et, eu, en, eb, eg⟩).2 = MN at *
            unfold ev at H1 H2
            dsimp only at H1 H2
            have HH1 : Hid (Calls _ _ _ _ _) := H1
            have HH2 : Hid (_) := H2
            clear H1 H2
            go_upto_region 16 with fail
            have c0 := fun z : WIn (fun w' => ∃ o2, Mv [5, 6] w1 o1 w' o2) => (HBk.out z.w z.ok).cell 0 _ rfl
            have c1 := fun z : WIn (fun w' => ∃ o2, Mv [5, 6] w1 o1 w' o2) => (HBk.out z.w z.ok).cell 1 _ rfl
            have c2 := fun z : WIn (fun w' => ∃ o2, Mv [5, 6] w1 o1 w' o2) => (HBk.out z.w z.ok).cell 2 _ rfl
            have c3 := fun z : WIn (fun w' => ∃ o2, Mv [5, 6] w1 o1 w' o2) => (HBk.out z.w z.ok).cell 3 _ rfl
            have c4 := fun z : WIn (fun w' => ∃ o2, Mv [5, 6] w1 o1 w' o2) => (HBk.out z.w z.ok).cell 4 _ rfl
            have c5 := fun z : WIn (fun w' => ∃ o2, Mv [5, 6] w1 o1 w' o2) => (HBk.out z.w z.ok).cell 5 _ rfl
            have c6 := fun z : WIn (fun w' => ∃ o2, Mv [5, 6] w1 o1 w' o2) => (HBk.out z.w z.ok).cell 6 _ rfl
            have c7 := fun z : WIn (fun w' => ∃ o2, Mv [5, 6] w1 o1 w' o2) => (HBk.out z.w z.ok).cell 7 _ rfl
            have c8 := fun z : WIn (fun w' => ∃ o2, Mv [5, 6] w1 o1 w' o2) => (HBk.out z.w z.ok).cell 8 _ rfl
            have c9 := fun z : WIn (fun w' => ∃ o2, Mv [5, 6] w1 o1 w' o2) => (HBk.out z.w z.ok).cell 9 _ rfl
            have c10 := fun z : WIn (fun w' => ∃ o2, Mv [5, 6] w1 o1 w' o2) => (HBk.out z.w z.ok).cell 10 _ rfl
            have ne : Nonempty (WIn (fun w' => ∃ o2, Mv [5, 6] w1 o1 w' o2)) := ⟨⟨w1, o1, Mv.refl _ _ _⟩⟩
            refine wp_region_ord (C := fun w' => ∃ z : WIn (fun w' => ∃ o2, Mv [5, 6] w1 o1 w' o2), w' = z.w) [(false, 0), (false, 1), (false, 2), (false, 4), (false, 5), (false, 6), (true, 3), (true, 7), (false, 8), (false, 9)] (by kernel_rfl) (by kernel_rfl) ⟨⟨w1.drew, o1, mv_drewn w1 o1⟩, rfl⟩ ?_
            iterate 6 (refine ord_still rfl rfl ?_; go_big_quiet_step (fail); refine wpQuiet_nil ?_)
            refine ord_mem rfl rfl ?_
            go_simp
            refine HH1.out.mono ?_
            rintro r w2 ⟨rfl, o2, g1, g2⟩
            have HG2 : Hid (BufIs w2 o2 5 w.heap.size most MN) := g1
            have HM2 : Hid (Mv [5] w1.drew o1 w2 o2) := g2
            clear g1 g2
            refine ⟨⟨⟨w2, o2, (mv_undrew HM2.out).widen (by simp)⟩, rfl⟩, ?_⟩
            refine ord_mem rfl rfl ?_
            go_simp
            refine (HH2.out w2 o2 HM2.out).mono ?_
            rintro r w3 ⟨rfl, o3, g1, g2⟩
            have HG : Hid (PG w w3 w.heap.size bR most o3 MN) := HG1.out.drew.both HG2.out HM2.out g1 g2
            have HM3 : Hid (Mv [5, 6] w1 o1 w3 o3) := (show Mv _ _ _ _ _ from ((mv_undrew HM2.out).widen (by simp)).trans (g2.widen (by simp)))
            clear g1 g2
            refine ⟨⟨⟨w3, o3, HM3.out⟩, rfl⟩, ?_⟩
            iterate 2 (refine ord_still rfl rfl ?_; go_big_quiet_step (fail); refine wpQuiet_nil ?_)
            refine ord_end ?_
            clear c0 c1 c2 c3 c4 c5 c6 c7 c8 c9 c10 ne
            clear HG2 HM2 HM3 HH1 HH2 HBk HX1 HKx HG1
            generalize hwN : w3 = wN at *
            generalize hoN : o3 = oN at *
            clear hwN hoN
            have RF := rfirst_any HG.out.bufR
            have BF := bfirst_any HG.out.bufP
            clear RF
            have HRF : Hid (∀ w2 o2, PG w w2 w.heap.size bR most o2 MN → Calls Try.prog 21 #[ptr bR] w2 fun r w' => ∃ y, r = .returned (.tuple #[ev (fE MN) y, .bool (fB MN)]) ∧ Kp0 w' (newTo o2 w2 0) y (fE MN).b ∧ Below w2.heap.size w2 w') := fun w2 o2 p => rfirst_any p.bufR
            have HSM := fun (w2 : World) (y1 y2 : Value) (h1 : Rd w2 y1 (fE MN).b) (h2 : Rd w2 y2 (fE MN).b) => refsameE_any w2 (fE MN) (fE MN) y1 y2 h1 h2
            rw [(sameB_iff (fE MN) (fE MN)).2 rfl] at HSM
            generalize hfe : fE MN = f at *
            generalize fB MN = fb0 at *
            clear hfe
            obtain ⟨fw, fi, fp, ft, fu, fn, fb, fg⟩ := f
            unfold ev at BF HRF HSM
            dsimp only at *
            have HBF : Hid (Calls _ _ _ _ _) := BF
            have HSm : Hid (_) := HSM
            clear BF HSM
            go_upto_region 27 with (first
              | (go_at_call 20; go_must (refine HBF.out.mono ?_; rintro r w5 ⟨y1, rfl, hy1, hb5⟩; obtain ⟨ay1, cy1, hyy⟩ := hy1.1.len; subst hyy; have G5 := (HG.out.past hb5).past (balloc (Below.refl _ w5) (.cells #[.int .i64 fw, .int .i64 fi, .int .u64 fp, .int .i64 ft, .int .i64 fu, .int .i64 fn, .slice ay1 fb.length cy1, .int .u64 fg] 38)); have HG5 : Hid (PG w (w5.alloc (.cells #[.int .i64 fw, .int .i64 fi, .int .u64 fp, .int .i64 ft, .int .i64 fu, .int .i64 fn, .slice ay1 fb.length cy1, .int .u64 fg] 38)) w.heap.size bR most (newTo (newTo oN wN 0) w5 0) MN) := G5; have HY5 : Hid (Kp0 (w5.alloc (.cells #[.int .i64 fw, .int .i64 fi, .int .u64 fp, .int .i64 ft, .int .i64 fu, .int .i64 fn, .slice ay1 fb.length cy1, .int .u64 fg] 38)) (newTo (newTo oN wN 0) w5 0) (.slice ay1 fb.length cy1) fb) := hy1.mv (Mv.of_below (I := []) 0 (balloc (Below.refl _ _) _)) (by simp); have HX5 : Hid (Blk (w5.alloc (.cells #[.int .i64 fw, .int .i64 fi, .int .u64 fp, .int .i64 ft, .int .i64 fu, .int .i64 fn, .slice ay1 fb.length cy1, .int .u64 fg] 38)) w5.heap.size 38 [.int .i64 fw, .int .i64 fi, .int .u64 fp, .int .i64 ft, .int .i64 fu, .int .i64 fn, .slice ay1 fb.length cy1, .int .u64 fg]) := blk_new w5 _ 38; clear hy1 hb5 G5))
              | (go_at_call 21; go_must (refine (HRF.out _ _ HG5.out).mono ?_; rintro r w6 ⟨y2, rfl, hy2, hb6⟩; obtain ⟨ay2, cy2, hyy⟩ := hy2.1.len; subst hyy; have hb7 := bnext hb6 (balloc (Below.refl _ w6) (.cells #[.int .i64 fw, .int .i64 fi, .int .u64 fp, .int .i64 ft, .int .i64 fu, .int .i64 fn, .slice ay2 fb.length cy2, .int .u64 fg] 38)); have HG7 : Hid (PG w (w6.alloc (.cells #[.int .i64 fw, .int .i64 fi, .int .u64 fp, .int .i64 ft, .int .i64 fu, .int .i64 fn, .slice ay2 fb.length cy2, .int .u64 fg] 38)) w.heap.size bR most _ MN) := HG5.out.past hb7; have HY7 : Hid (Rd (w6.alloc (.cells #[.int .i64 fw, .int .i64 fi, .int .u64 fp, .int .i64 ft, .int .i64 fu, .int .i64 fn, .slice ay2 fb.length cy2, .int .u64 fg] 38)) (.slice ay1 fb.length cy1) fb) := HY5.out.1.below hb7; have HZ7 : Hid (Rd (w6.alloc (.cells #[.int .i64 fw, .int .i64 fi, .int .u64 fp, .int .i64 ft, .int .i64 fu, .int .i64 fn, .slice ay2 fb.length cy2, .int .u64 fg] 38)) (.slice ay2 fb.length cy2) fb) := hy2.1.below (balloc (Below.refl _ _) _); have HX7 : Hid (Blk (w6.alloc (.cells #[.int .i64 fw, .int .i64 fi, .int .u64 fp, .int .i64 ft, .int .i64 fu, .int .i64 fn, .slice ay2 fb.length cy2, .int .u64 fg] 38)) w5.heap.size 38 [.int .i64 fw, .int .i64 fi, .int .u64 fp, .int .i64 ft, .int .i64 fu, .int .i64 fn, .slice ay1 fb.length cy1, .int .u64 fg]) := HX5.out.below hb7; have HW7 : Hid (Blk (w6.alloc (.cells #[.int .i64 fw, .int .i64 fi, .int .u64 fp, .int .i64 ft, .int .i64 fu, .int .i64 fn, .slice ay2 fb.length cy2, .int .u64 fg] 38)) w6.heap.size 38 [.int .i64 fw, .int .i64 fi, .int .u64 fp, .int .i64 ft, .int .i64 fu, .int .i64 fn, .slice ay2 fb.length cy2, .int .u64 fg]) := blk_new w6 _ 38; clear hy2 hb6 hb7)))
            generalize w5.heap.size = b15 at HX7 ⊢
            generalize w6.heap.size = b17 at HW7 ⊢
            clear HX5 HY5 HG5
            generalize w6.alloc (.cells #[.int .i64 fw, .int .i64 fi, .int .u64 fp, .int .i64 ft, .int .i64 fu, .int .i64 fn, .slice ay2 fb.length cy2, .int .u64 fg] 38) = w7 at HG7 HY7 HZ7 HX7 HW7 ⊢
            generalize newTo (newTo (newTo oN wN 0) w5 0) (w5.alloc (.cells #[.int .i64 fw, .int .i64 fi, .int .u64 fp, .int .i64 ft, .int .i64 fu, .int .i64 fn, .slice ay1 fb.length cy1, .int .u64 fg] 38)) 0 = o7 at HG7
            obtain ⟨vR, psR, hRA⟩ := HG7.out.bufR
            have hRl := hRA.len
            obtain ⟨aR, cR, hvR⟩ := hRA.out.rowE.len
            rw [hRl] at hvR
            subst hvR
            have HRA : Hid (RBufAt w7 o7 6 bR most (.slice aR MN.length cR) psR MN) := hRA
            have hMl := HG7.out.bufP.len
            clear hRA hRl
            have BL := blen_any HG7.out.bufP
            have AL := fun (w8 : World) (hb : Below w7.heap.size w7 w8) => ball_any (HG7.out.past hb).bufP
            have HBL : Hid (∀ w8, Below w7.heap.size w7 w8 → Calls Try.prog 22 #[ptr w.heap.size] w8 fun r w' => r = .returned (.int .i64 (MN.length : Int)) ∧ w' = w8) := fun w8 hb => blen_any (HG7.out.past hb).bufP
            have HAL : Hid (_) := AL
            have HRE : Hid (∀ (w8 w9 : World) (v9 : Value) (rs9 : List (Ent × Value)), Below w7.heap.size w7 w8 → Below w8.heap.size w8 w9 → rs9.map (·.1) = MN → OutAt w9 (newTo (newTo o7 w7 0) w8 0) 0 w8.heap.size v9 rs9 → Calls Try.prog 15 #[v9, .slice aR MN.length cR] w9 fun r w' => r = .returned (.bool true) ∧ Below w9.heap.size w9 w') := fun w8 w9 v9 rs9 h8 h9 hm hO => by
              have hR9 := (HRA.out.below h8).below h9
              exact refall_eq hO.rowE hO.ents hR9.out.rowE hR9.out.ents (hm.trans hR9.map.symm)
            clear BL AL
            have m0 := fun z : WIn (fun w' => Below w7.heap.size w7 w') => (HX7.out.below z.ok).cell 0 _ rfl
            have m1 := fun z : WIn (fun w' => Below w7.heap.size w7 w') => (HX7.out.below z.ok).cell 1 _ rfl
            have m2 := fun z : WIn (fun w' => Below w7.heap.size w7 w') => (HX7.out.below z.ok).cell 2 _ rfl
            have m3 := fun z : WIn (fun w' => Below w7.heap.size w7 w') => (HX7.out.below z.ok).cell 3 _ rfl
            have m4 := fun z : WIn (fun w' => Below w7.heap.size w7 w') => (HX7.out.below z.ok).cell 4 _ rfl
            have m5 := fun z : WIn (fun w' => Below w7.heap.size w7 w') => (HX7.out.below z.ok).cell 5 _ rfl
            have m6 := fun z : WIn (fun w' => Below w7.heap.size w7 w') => (HX7.out.below z.ok).cell 6 _ rfl
            have m7 := fun z : WIn (fun w' => Below w7.heap.size w7 w') => (HX7.out.below z.ok).cell 7 _ rfl
            have n0 := fun z : WIn (fun w' => Below w7.heap.size w7 w') => (HW7.out.below z.ok).cell 0 _ rfl
            have n1 := fun z : WIn (fun w' => Below w7.heap.size w7 w') => (HW7.out.below z.ok).cell 1 _ rfl
            have n2 := fun z : WIn (fun w' => Below w7.heap.size w7 w') => (HW7.out.below z.ok).cell 2 _ rfl
            have n3 := fun z : WIn (fun w' => Below w7.heap.size w7 w') => (HW7.out.below z.ok).cell 3 _ rfl
            have n4 := fun z : WIn (fun w' => Below w7.heap.size w7 w') => (HW7.out.below z.ok).cell 4 _ rfl
            have n5 := fun z : WIn (fun w' => Below w7.heap.size w7 w') => (HW7.out.below z.ok).cell 5 _ rfl
            have n6 := fun z : WIn (fun w' => Below w7.heap.size w7 w') => (HW7.out.below z.ok).cell 6 _ rfl
            have n7 := fun z : WIn (fun w' => Below w7.heap.size w7 w') => (HW7.out.below z.ok).cell 7 _ rfl
            have lR := fun z : WIn (fun w' => Below w7.heap.size w7 w') => (HRA.out.below z.ok).blk.cell 1 _ rfl
            have ne : Nonempty (WIn (fun w' => Below w7.heap.size w7 w')) := ⟨⟨w7, Below.refl _ _⟩⟩
            refine wp_region_ord (C := fun w' => ∃ z : WIn (fun w' => Below w7.heap.size w7 w'), w' = z.w) [(false, 0), (false, 1), (false, 2), (false, 3), (false, 4), (false, 5), (false, 6), (false, 7), (false, 8), (false, 9), (true, 10), (false, 11), (false, 12), (false, 13), (false, 14), (false, 16), (false, 17), (false, 18), (false, 19), (false, 20), (true, 15), (false, 21), (false, 22), (false, 23), (false, 24), (false, 26), (false, 27), (false, 28), (false, 29), (true, 25), (true, 30), (false, 31), (false, 32)] (by kernel_rfl) (by kernel_rfl) ⟨⟨w7.drew, (Below.refl _ _).drew⟩, rfl⟩ ?_
            iterate 10 (refine ord_still rfl rfl ?_; go_big_quiet_step (fail); refine wpQuiet_nil ?_)
            refine ord_mem rfl rfl ?_
            go_simp
            refine (HSm.out w7.drew _ _ HY7.out.drew HZ7.out.drew).mono ?_
            rintro r w8 ⟨rfl, hb8⟩
            have HB8 : Hid (Below w7.heap.size w7 w8) := below_undrew hb8
            clear hb8
            refine ⟨⟨⟨w8, HB8.out⟩, rfl⟩, ?_⟩
            iterate 9 (refine ord_still rfl rfl ?_; go_big_quiet_step (fail); refine wpQuiet_nil ?_)
            refine ord_mem rfl rfl ?_
            go_simp
            refine (HBL.out w8 HB8.out).mono ?_
            rintro r w9 ⟨rfl, hw9⟩
            replace hw9 := hw9.symm
            subst hw9
            refine ⟨⟨⟨w8, HB8.out⟩, rfl⟩, ?_⟩
            iterate 8 (refine ord_still rfl rfl ?_; go_big_quiet_step (fail); refine wpQuiet_nil ?_)
            refine ord_mem rfl rfl ?_
            go_simp
            refine (HAL.out w8 HB8.out).mono ?_
            rintro r w9 ⟨v9, rfl, rs9, hrs9, hO9, hb9⟩
            obtain ⟨a9, c9, hv9, _⟩ := slice_of_own hO9.row
            subst hv9
            have RE9 := HRE.out w8 w9 _ rs9 HB8.out hb9 hrs9 hO9
            have HRE9 : Hid (Calls _ _ _ _ _) := RE9
            have HB9 : Hid (Below w7.heap.size w7 w9) := bnext HB8.out hb9
            clear hrs9 hO9 hb9 RE9
            refine ⟨⟨⟨w9, HB9.out⟩, rfl⟩, ?_⟩
            refine ord_mem rfl rfl ?_
            go_simp
            refine HRE9.out.mono ?_
            rintro r w10 ⟨rfl, hb10⟩
            have HB10 : Hid (Below w7.heap.size w7 w10) := bnext HB9.out hb10
            clear hb10
            refine ⟨⟨⟨w10, HB10.out⟩, rfl⟩, ?_⟩
            iterate 2 (refine ord_still rfl rfl ?_; go_big_quiet_step (fail); refine wpQuiet_nil ?_)
            refine ord_end ?_
            clear m0 m1 m2 m3 m4 m5 m6 m7 n0 n1 n2 n3 n4 n5 n6 n7 lR ne
            have HGE : Hid (∃ o' M, PG w w10 w.heap.size bR most o' M) := ⟨_, MN, HG7.out.past HB10.out⟩
            go_wp2
            go_roundw
            case rel => exact ⟨k + 1, by go_num, by omega, HGE⟩
            case measure => simp [intOf]; omega
          · have k0' : (ok == 0) = false := by simpa using k0
            by_cases k1 : ok = 1
            · subst k1
              clear k0'
              have H1 := (btake_any (a := ow) (i := oi) HG1.out.bufP (by omega)).2
              have H2 := fun (w2 : World) (o2 : Nat → Nat) (h : RBufIs w2 o2 6 bR most M) => rtake_any (a := ow) (i := oi) h HG1.out.bufP.srt (by omega) HG1.out.bufP.len
              generalize tkE M ow oi = f at *
              generalize tkB M ow oi = fb0 at *
              generalize lessM M ow oi = MN at *
              have SM := fun (w2 : World) (y1 y2 : Value) (h1 : Rd w2 y1 f.b) (h2 : Rd w2 y2 f.b) => refsameE_any w2 f f y1 y2 h1 h2
              rw [(sameB_iff f f).2 rfl] at SM
              obtain ⟨fw, fi, fp, ft, fu, fn, fb, fg⟩ := f
              unfold ev at H1 H2 SM
              dsimp only at *
              have HH1 : Hid (Calls _ _ _ _ _) := H1
              have HH2 : Hid (_) := H2
              have HSm : Hid (_) := SM
              clear H1 H2 SM
              have c1 := HX1.out.cell 1 _ rfl
              have c2 := HX1.out.cell 2 _ rfl
              go_upto_region 20 with (first
                | (go_at_call 12; go_must (refine HH1.out.mono ?_; rintro r w2 ⟨x2, rfl, o2, g1, g2, g3⟩; obtain ⟨ay1, cy1, hyy⟩ := g3.1.len; subst hyy; have m3 : Mv [5] w1 o1 (w2.alloc (.cells #[.int .i64 fw, .int .i64 fi, .int .u64 fp, .int .i64 ft, .int .i64 fu, .int .i64 fn, .slice ay1 fb.length cy1, .int .u64 fg] 38)) (newTo o2 w2 0) := g2.trans (Mv.of_below 0 (balloc (Below.refl _ _) _)); have HG2 : Hid (BufIs (w2.alloc (.cells #[.int .i64 fw, .int .i64 fi, .int .u64 fp, .int .i64 ft, .int .i64 fu, .int .i64 fn, .slice ay1 fb.length cy1, .int .u64 fg] 38)) (newTo o2 w2 0) 5 w.heap.size most MN) := g1.below (balloc (Below.refl _ _) _); have HM3 : Hid (Mv [5] w1 o1 (w2.alloc (.cells #[.int .i64 fw, .int .i64 fi, .int .u64 fp, .int .i64 ft, .int .i64 fu, .int .i64 fn, .slice ay1 fb.length cy1, .int .u64 fg] 38)) (newTo o2 w2 0)) := m3; have HR2 : Hid (RBufIs (w2.alloc (.cells #[.int .i64 fw, .int .i64 fi, .int .u64 fp, .int .i64 ft, .int .i64 fu, .int .i64 fn, .slice ay1 fb.length cy1, .int .u64 fg] 38)) (newTo o2 w2 0) 6 bR most M) := HG1.out.bufR.mv m3 (by simp) (by simp); have HY2 : Hid (Kp0 (w2.alloc (.cells #[.int .i64 fw, .int .i64 fi, .int .u64 fp, .int .i64 ft, .int .i64 fu, .int .i64 fn, .slice ay1 fb.length cy1, .int .u64 fg] 38)) (newTo o2 w2 0) (.slice ay1 fb.length cy1) fb) := g3.mv (Mv.of_below (I := []) 0 (balloc (Below.refl _ _) _)) (by simp); have HE2 : Hid (Blk (w2.alloc (.cells #[.int .i64 fw, .int .i64 fi, .int .u64 fp, .int .i64 ft, .int .i64 fu, .int .i64 fn, .slice ay1 fb.length cy1, .int .u64 fg] 38)) w2.heap.size 38 [.int .i64 fw, .int .i64 fi, .int .u64 fp, .int .i64 ft, .int .i64 fu, .int .i64 fn, .slice ay1 fb.length cy1, .int .u64 fg]) := blk_new w2 _ 38; have HN2 : Hid (newTo o2 w2 0 w2.heap.size = 0) := newTo_new (Nat.le_refl _); have B3 := HBk.out _ ⟨_, m3.widen (by simp)⟩; have d1 := B3.cell 1 _ rfl; have d2 := B3.cell 2 _ rfl; clear g1 g2 g3 m3 B3))
                | (go_at_call 13; go_must (refine (HH2.out _ _ HR2.out).mono ?_; rintro r w4 ⟨x4, rfl, o4, g1, g2, g3⟩; obtain ⟨ay2, cy2, hyy⟩ := g3.1.len; subst hyy; have hb5 := balloc (Below.refl _ w4) (.cells #[.int .i64 fw, .int .i64 fi, .int .u64 fp, .int .i64 ft, .int .i64 fu, .int .i64 fn, .slice ay2 fb.length cy2, .int .u64 fg] 38); have G4 := HG1.out.both HG2.out HM3.out g1 g2; have HG5 : Hid (PG w (w4.alloc (.cells #[.int .i64 fw, .int .i64 fi, .int .u64 fp, .int .i64 ft, .int .i64 fu, .int .i64 fn, .slice ay2 fb.length cy2, .int .u64 fg] 38)) w.heap.size bR most (newTo o4 w4 0) MN) := G4.past hb5; have HY5 : Hid (Rd (w4.alloc (.cells #[.int .i64 fw, .int .i64 fi, .int .u64 fp, .int .i64 ft, .int .i64 fu, .int .i64 fn, .slice ay2 fb.length cy2, .int .u64 fg] 38)) (.slice ay1 fb.length cy1) fb) := (HY2.out.mv g2 (by simp)).1.below hb5; have HZ5 : Hid (Rd (w4.alloc (.cells #[.int .i64 fw, .int .i64 fi, .int .u64 fp, .int .i64 ft, .int .i64 fu, .int .i64 fn, .slice ay2 fb.length cy2, .int .u64 fg] 38)) (.slice ay2 fb.length cy2) fb) := g3.1.below hb5; have E4 : Blk w4 w2.heap.size 38 [.int .i64 fw, .int .i64 fi, .int .u64 fp, .int .i64 ft, .int .i64 fu, .int .i64 fn, .slice ay1 fb.length cy1, .int .u64 fg] := HE2.out.block (g2.block _ HE2.out.lt (by rw [HN2.out]; simp)); have HE5 : Hid (Blk (w4.alloc (.cells #[.int .i64 fw, .int .i64 fi, .int .u64 fp, .int .i64 ft, .int .i64 fu, .int .i64 fn, .slice ay2 fb.length cy2, .int .u64 fg] 38)) w2.heap.size 38 [.int .i64 fw, .int .i64 fi, .int .u64 fp, .int .i64 ft, .int .i64 fu, .int .i64 fn, .slice ay1 fb.length cy1, .int .u64 fg]) := E4.alloc _; have HF5 : Hid (Blk (w4.alloc (.cells #[.int .i64 fw, .int .i64 fi, .int .u64 fp, .int .i64 ft, .int .i64 fu, .int .i64 fn, .slice ay2 fb.length cy2, .int .u64 fg] 38)) w4.heap.size 38 [.int .i64 fw, .int .i64 fi, .int .u64 fp, .int .i64 ft, .int .i64 fu, .int .i64 fn, .slice ay2 fb.length cy2, .int .u64 fg]) := blk_new w4 _ 38; clear g1 g2 g3 hb5 G4 E4)))
              clear c1 c2 d1 d2
              generalize w2.heap.size = b11 at HE5 ⊢
              generalize w4.heap.size = b13 at HF5 ⊢
              generalize w4.alloc (.cells #[.int .i64 fw, .int .i64 fi, .int .u64 fp, .int .i64 ft, .int .i64 fu, .int .i64 fn, .slice ay2 fb.length cy2, .int .u64 fg] 38) = w5 at HG5 HY5 HZ5 HE5 HF5 ⊢
              have i0 := HE5.out.cell 0 _ rfl; have i1 := HE5.out.cell 1 _ rfl; have i2 := HE5.out.cell 2 _ rfl; have i3 := HE5.out.cell 3 _ rfl; have i4 := HE5.out.cell 4 _ rfl; have i5 := HE5.out.cell 5 _ rfl; have i6 := HE5.out.cell 6 _ rfl; have i7 := HE5.out.cell 7 _ rfl
              have h0 := HF5.out.cell 0 _ rfl; have h1 := HF5.out.cell 1 _ rfl; have h2 := HF5.out.cell 2 _ rfl; have h3 := HF5.out.cell 3 _ rfl; have h4 := HF5.out.cell 4 _ rfl; have h5 := HF5.out.cell 5 _ rfl; have h6 := HF5.out.cell 6 _ rfl; have h7 := HF5.out.cell 7 _ rfl
              go_upto_region 25 with (go_at_call 14; go_must (refine (HSm.out w5 _ _ HY5.out HZ5.out).mono ?_; rintro r w6 ⟨rfl, hb6⟩; have HG : Hid (PG w w6 w.heap.size bR most (newTo (newTo o4 w4 0) w5 0) MN) := HG5.out.past hb6; clear hb6))
              clear i0 i1 i2 i3 i4 i5 i6 i7 h0 h1 h2 h3 h4 h5 h6 h7 HE5 HF5 HY5 HZ5 HG5 HE2 HN2 HY2 HR2 HM3 HG2 HSm HH1 HH2 HBk HX1 HKx HG1
              generalize hwN : w6 = wN at *
              generalize hoN : newTo (newTo o4 w4 0) w5 0 = oN at *
              clear hwN hoN
              have RF := rfirst_any HG.out.bufR
              have BF := bfirst_any HG.out.bufP
              clear RF
              have HRF : Hid (∀ w2 o2, PG w w2 w.heap.size bR most o2 MN → Calls Try.prog 21 #[ptr bR] w2 fun r w' => ∃ y, r = .returned (.tuple #[ev (fE MN) y, .bool (fB MN)]) ∧ Kp0 w' (newTo o2 w2 0) y (fE MN).b ∧ Below w2.heap.size w2 w') := fun w2 o2 p => rfirst_any p.bufR
              have HSM := fun (w2 : World) (y1 y2 : Value) (h1 : Rd w2 y1 (fE MN).b) (h2 : Rd w2 y2 (fE MN).b) => refsameE_any w2 (fE MN) (fE MN) y1 y2 h1 h2
              rw [(sameB_iff (fE MN) (fE MN)).2 rfl] at HSM
              generalize hfe : fE MN = f at *
              generalize fB MN = fb0 at *
              clear hfe
              obtain ⟨fw, fi, fp, ft, fu, fn, fb, fg⟩ := f
              unfold ev at BF HRF HSM
              dsimp only at *
              have HBF : Hid (Calls _ _ _ _ _) := BF
              have HSm : Hid (_) := HSM
              clear BF HSM
              go_upto_region 27 with (first
                | (go_at_call 20; go_must (refine HBF.out.mono ?_; rintro r w5 ⟨y1, rfl, hy1, hb5⟩; obtain ⟨ay1, cy1, hyy⟩ := hy1.1.len; subst hyy; have G5 := (HG.out.past hb5).past (balloc (Below.refl _ w5) (.cells #[.int .i64 fw, .int .i64 fi, .int .u64 fp, .int .i64 ft, .int .i64 fu, .int .i64 fn, .slice ay1 fb.length cy1, .int .u64 fg] 38)); have HG5 : Hid (PG w (w5.alloc (.cells #[.int .i64 fw, .int .i64 fi, .int .u64 fp, .int .i64 ft, .int .i64 fu, .int .i64 fn, .slice ay1 fb.length cy1, .int .u64 fg] 38)) w.heap.size bR most (newTo (newTo oN wN 0) w5 0) MN) := G5; have HY5 : Hid (Kp0 (w5.alloc (.cells #[.int .i64 fw, .int .i64 fi, .int .u64 fp, .int .i64 ft, .int .i64 fu, .int .i64 fn, .slice ay1 fb.length cy1, .int .u64 fg] 38)) (newTo (newTo oN wN 0) w5 0) (.slice ay1 fb.length cy1) fb) := hy1.mv (Mv.of_below (I := []) 0 (balloc (Below.refl _ _) _)) (by simp); have HX5 : Hid (Blk (w5.alloc (.cells #[.int .i64 fw, .int .i64 fi, .int .u64 fp, .int .i64 ft, .int .i64 fu, .int .i64 fn, .slice ay1 fb.length cy1, .int .u64 fg] 38)) w5.heap.size 38 [.int .i64 fw, .int .i64 fi, .int .u64 fp, .int .i64 ft, .int .i64 fu, .int .i64 fn, .slice ay1 fb.length cy1, .int .u64 fg]) := blk_new w5 _ 38; clear hy1 hb5 G5))
                | (go_at_call 21; go_must (refine (HRF.out _ _ HG5.out).mono ?_; rintro r w6 ⟨y2, rfl, hy2, hb6⟩; obtain ⟨ay2, cy2, hyy⟩ := hy2.1.len; subst hyy; have hb7 := bnext hb6 (balloc (Below.refl _ w6) (.cells #[.int .i64 fw, .int .i64 fi, .int .u64 fp, .int .i64 ft, .int .i64 fu, .int .i64 fn, .slice ay2 fb.length cy2, .int .u64 fg] 38)); have HG7 : Hid (PG w (w6.alloc (.cells #[.int .i64 fw, .int .i64 fi, .int .u64 fp, .int .i64 ft, .int .i64 fu, .int .i64 fn, .slice ay2 fb.length cy2, .int .u64 fg] 38)) w.heap.size bR most _ MN) := HG5.out.past hb7; have HY7 : Hid (Rd (w6.alloc (.cells #[.int .i64 fw, .int .i64 fi, .int .u64 fp, .int .i64 ft, .int .i64 fu, .int .i64 fn, .slice ay2 fb.length cy2, .int .u64 fg] 38)) (.slice ay1 fb.length cy1) fb) := HY5.out.1.below hb7; have HZ7 : Hid (Rd (w6.alloc (.cells #[.int .i64 fw, .int .i64 fi, .int .u64 fp, .int .i64 ft, .int .i64 fu, .int .i64 fn, .slice ay2 fb.length cy2, .int .u64 fg] 38)) (.slice ay2 fb.length cy2) fb) := hy2.1.below (balloc (Below.refl _ _) _); have HX7 : Hid (Blk (w6.alloc (.cells #[.int .i64 fw, .int .i64 fi, .int .u64 fp, .int .i64 ft, .int .i64 fu, .int .i64 fn, .slice ay2 fb.length cy2, .int .u64 fg] 38)) w5.heap.size 38 [.int .i64 fw, .int .i64 fi, .int .u64 fp, .int .i64 ft, .int .i64 fu, .int .i64 fn, .slice ay1 fb.length cy1, .int .u64 fg]) := HX5.out.below hb7; have HW7 : Hid (Blk (w6.alloc (.cells #[.int .i64 fw, .int .i64 fi, .int .u64 fp, .int .i64 ft, .int .i64 fu, .int .i64 fn, .slice ay2 fb.length cy2, .int .u64 fg] 38)) w6.heap.size 38 [.int .i64 fw, .int .i64 fi, .int .u64 fp, .int .i64 ft, .int .i64 fu, .int .i64 fn, .slice ay2 fb.length cy2, .int .u64 fg]) := blk_new w6 _ 38; clear hy2 hb6 hb7)))
              generalize w5.heap.size = b15 at HX7 ⊢
              generalize w6.heap.size = b17 at HW7 ⊢
              clear HX5 HY5 HG5
              generalize w6.alloc (.cells #[.int .i64 fw, .int .i64 fi, .int .u64 fp, .int .i64 ft, .int .i64 fu, .int .i64 fn, .slice ay2 fb.length cy2, .int .u64 fg] 38) = w7 at HG7 HY7 HZ7 HX7 HW7 ⊢
              generalize newTo (newTo (newTo oN wN 0) w5 0) (w5.alloc (.cells #[.int .i64 fw, .int .i64 fi, .int .u64 fp, .int .i64 ft, .int .i64 fu, .int .i64 fn, .slice ay1 fb.length cy1, .int .u64 fg] 38)) 0 = o7 at HG7
              obtain ⟨vR, psR, hRA⟩ := HG7.out.bufR
              have hRl := hRA.len
              obtain ⟨aR, cR, hvR⟩ := hRA.out.rowE.len
              rw [hRl] at hvR
              subst hvR
              have HRA : Hid (RBufAt w7 o7 6 bR most (.slice aR MN.length cR) psR MN) := hRA
              have hMl := HG7.out.bufP.len
              clear hRA hRl
              have BL := blen_any HG7.out.bufP
              have AL := fun (w8 : World) (hb : Below w7.heap.size w7 w8) => ball_any (HG7.out.past hb).bufP
              have HBL : Hid (∀ w8, Below w7.heap.size w7 w8 → Calls Try.prog 22 #[ptr w.heap.size] w8 fun r w' => r = .returned (.int .i64 (MN.length : Int)) ∧ w' = w8) := fun w8 hb => blen_any (HG7.out.past hb).bufP
              have HAL : Hid (_) := AL
              have HRE : Hid (∀ (w8 w9 : World) (v9 : Value) (rs9 : List (Ent × Value)), Below w7.heap.size w7 w8 → Below w8.heap.size w8 w9 → rs9.map (·.1) = MN → OutAt w9 (newTo (newTo o7 w7 0) w8 0) 0 w8.heap.size v9 rs9 → Calls Try.prog 15 #[v9, .slice aR MN.length cR] w9 fun r w' => r = .returned (.bool true) ∧ Below w9.heap.size w9 w') := fun w8 w9 v9 rs9 h8 h9 hm hO => by
                have hR9 := (HRA.out.below h8).below h9
                exact refall_eq hO.rowE hO.ents hR9.out.rowE hR9.out.ents (hm.trans hR9.map.symm)
              clear BL AL
              have m0 := fun z : WIn (fun w' => Below w7.heap.size w7 w') => (HX7.out.below z.ok).cell 0 _ rfl
              have m1 := fun z : WIn (fun w' => Below w7.heap.size w7 w') => (HX7.out.below z.ok).cell 1 _ rfl
              have m2 := fun z : WIn (fun w' => Below w7.heap.size w7 w') => (HX7.out.below z.ok).cell 2 _ rfl
              have m3 := fun z : WIn (fun w' => Below w7.heap.size w7 w') => (HX7.out.below z.ok).cell 3 _ rfl
              have m4 := fun z : WIn (fun w' => Below w7.heap.size w7 w') => (HX7.out.below z.ok).cell 4 _ rfl
              have m5 := fun z : WIn (fun w' => Below w7.heap.size w7 w') => (HX7.out.below z.ok).cell 5 _ rfl
              have m6 := fun z : WIn (fun w' => Below w7.heap.size w7 w') => (HX7.out.below z.ok).cell 6 _ rfl
              have m7 := fun z : WIn (fun w' => Below w7.heap.size w7 w') => (HX7.out.below z.ok).cell 7 _ rfl
              have n0 := fun z : WIn (fun w' => Below w7.heap.size w7 w') => (HW7.out.below z.ok).cell 0 _ rfl
              have n1 := fun z : WIn (fun w' => Below w7.heap.size w7 w') => (HW7.out.below z.ok).cell 1 _ rfl
              have n2 := fun z : WIn (fun w' => Below w7.heap.size w7 w') => (HW7.out.below z.ok).cell 2 _ rfl
              have n3 := fun z : WIn (fun w' => Below w7.heap.size w7 w') => (HW7.out.below z.ok).cell 3 _ rfl
              have n4 := fun z : WIn (fun w' => Below w7.heap.size w7 w') => (HW7.out.below z.ok).cell 4 _ rfl
              have n5 := fun z : WIn (fun w' => Below w7.heap.size w7 w') => (HW7.out.below z.ok).cell 5 _ rfl
              have n6 := fun z : WIn (fun w' => Below w7.heap.size w7 w') => (HW7.out.below z.ok).cell 6 _ rfl
              have n7 := fun z : WIn (fun w' => Below w7.heap.size w7 w') => (HW7.out.below z.ok).cell 7 _ rfl
              have lR := fun z : WIn (fun w' => Below w7.heap.size w7 w') => (HRA.out.below z.ok).blk.cell 1 _ rfl
              have ne : Nonempty (WIn (fun w' => Below w7.heap.size w7 w')) := ⟨⟨w7, Below.refl _ _⟩⟩
              refine wp_region_ord (C := fun w' => ∃ z : WIn (fun w' => Below w7.heap.size w7 w'), w' = z.w) [(false, 0), (false, 1), (false, 2), (false, 3), (false, 4), (false, 5), (false, 6), (false, 7), (false, 8), (false, 9), (true, 10), (false, 11), (false, 12), (false, 13), (false, 14), (false, 16), (false, 17), (false, 18), (false, 19), (false, 20), (true, 15), (false, 21), (false, 22), (false, 23), (false, 24), (false, 26), (false, 27), (false, 28), (false, 29), (true, 25), (true, 30), (false, 31), (false, 32)] (by kernel_rfl) (by kernel_rfl) ⟨⟨w7.drew, (Below.refl _ _).drew⟩, rfl⟩ ?_
              iterate 10 (refine ord_still rfl rfl ?_; go_big_quiet_step (fail); refine wpQuiet_nil ?_)
              refine ord_mem rfl rfl ?_
              go_simp
              refine (HSm.out w7.drew _ _ HY7.out.drew HZ7.out.drew).mono ?_
              rintro r w8 ⟨rfl, hb8⟩
              have HB8 : Hid (Below w7.heap.size w7 w8) := below_undrew hb8
              clear hb8
              refine ⟨⟨⟨w8, HB8.out⟩, rfl⟩, ?_⟩
              iterate 9 (refine ord_still rfl rfl ?_; go_big_quiet_step (fail); refine wpQuiet_nil ?_)
              refine ord_mem rfl rfl ?_
              go_simp
              refine (HBL.out w8 HB8.out).mono ?_
              rintro r w9 ⟨rfl, hw9⟩
              replace hw9 := hw9.symm
              subst hw9
              refine ⟨⟨⟨w8, HB8.out⟩, rfl⟩, ?_⟩
              iterate 8 (refine ord_still rfl rfl ?_; go_big_quiet_step (fail); refine wpQuiet_nil ?_)
              refine ord_mem rfl rfl ?_
              go_simp
              refine (HAL.out w8 HB8.out).mono ?_
              rintro r w9 ⟨v9, rfl, rs9, hrs9, hO9, hb9⟩
              obtain ⟨a9, c9, hv9, _⟩ := slice_of_own hO9.row
              subst hv9
              have RE9 := HRE.out w8 w9 _ rs9 HB8.out hb9 hrs9 hO9
              have HRE9 : Hid (Calls _ _ _ _ _) := RE9
              have HB9 : Hid (Below w7.heap.size w7 w9) := bnext HB8.out hb9
              clear hrs9 hO9 hb9 RE9
              refine ⟨⟨⟨w9, HB9.out⟩, rfl⟩, ?_⟩
              refine ord_mem rfl rfl ?_
              go_simp
              refine HRE9.out.mono ?_
              rintro r w10 ⟨rfl, hb10⟩
              have HB10 : Hid (Below w7.heap.size w7 w10) := bnext HB9.out hb10
              clear hb10
              refine ⟨⟨⟨w10, HB10.out⟩, rfl⟩, ?_⟩
              iterate 2 (refine ord_still rfl rfl ?_; go_big_quiet_step (fail); refine wpQuiet_nil ?_)
              refine ord_end ?_
              clear m0 m1 m2 m3 m4 m5 m6 m7 n0 n1 n2 n3 n4 n5 n6 n7 lR ne
              have HGE : Hid (∃ o' M, PG w w10 w.heap.size bR most o' M) := ⟨_, MN, HG7.out.past HB10.out⟩
              go_wp2
              go_roundw
              case rel => exact ⟨k + 1, by go_num, by omega, HGE⟩
              case measure => simp [intOf]; omega
            · have k1' : (ok == 1) = false := by simpa using k1
              by_cases k2 : ok = 2
              · subst k2
                clear k0' k1'
                have H1 := brun_any (a := ow) (i := oi) HG1.out.drew.bufP (by omega)
                have H2 := fun (w2 : World) (o2 : Nat → Nat) (m : Mv [5] w1.drew o1 w2 o2) => rrun_any (a := ow) (i := oi) (HG1.out.drew.bufR.mv m (by simp) (by simp)) HG1.out.bufP.srt HG1.out.bufP.right (by omega) HG1.out.bufP.len
                generalize (runM M.length M ow oi).1 = R at *
                generalize (runM M.length M ow oi).2 = MN at *
                have HH1 : Hid (Calls _ _ _ _ _) := H1
                have HH2 : Hid (_) := H2
                have HRE0 : Hid (∀ (w2 w3 : World) (o2 o3 : Nat → Nat) (v2 v3 : Value) (rs2 rs3 : List (Ent × Value)) (B2 B3 : Nat), OutAt w2 o2 0 B2 v2 rs2 → Mv [6] w2 o2 w3 o3 → OutAt w3 o3 0 B3 v3 rs3 → rs2.map (·.1) = R → rs3.map (·.1) = R → Calls Try.prog 15 #[v2, v3] w3 fun r w' => r = .returned (.bool true) ∧ Below w3.heap.size w3 w') := fun w2 w3 o2 o3 v2 v3 rs2 rs3 B2 B3 h2 m h3 e2 e3 => by
                  have h2' := h2.mv m (by simp) (by simp)
                  exact refall_eq h2'.rowE h2'.ents h3.rowE h3.ents (e2.trans e3.symm)
                clear H1 H2
                go_upto_region 22 with fail
                have c1 := fun z : WIn (fun w' => ∃ o2, Mv [5, 6] w1 o1 w' o2) => (HBk.out z.w z.ok).cell 1 _ rfl
                have c2 := fun z : WIn (fun w' => ∃ o2, Mv [5, 6] w1 o1 w' o2) => (HBk.out z.w z.ok).cell 2 _ rfl
                have ne : Nonempty (WIn (fun w' => ∃ o2, Mv [5, 6] w1 o1 w' o2)) := ⟨⟨w1, o1, Mv.refl _ _ _⟩⟩
                refine wp_region_ord (C := fun w' => ∃ z : WIn (fun w' => ∃ o2, Mv [5, 6] w1 o1 w' o2), w' = z.w) [(false, 0), (false, 1), (false, 2), (false, 3), (false, 4), (false, 6), (false, 7), (false, 8), (false, 9), (false, 10), (true, 5), (true, 11), (true, 12), (false, 13)] (by kernel_rfl) (by kernel_rfl) ⟨⟨w1.drew, o1, mv_drewn w1 o1⟩, rfl⟩ ?_
                iterate 10 (refine ord_still rfl rfl ?_; go_big_quiet_step (fail); refine wpQuiet_nil ?_)
                refine ord_mem rfl rfl ?_
                go_simp
                refine HH1.out.mono ?_
                rintro r w2 ⟨v2, rfl, o2, rs2, hrs2, g1, hO2, g2⟩
                obtain ⟨a2, c2', hv2, _⟩ := slice_of_own hO2.row
                subst hv2
                have HG2 : Hid (BufIs w2 o2 5 w.heap.size most MN) := g1
                have HM2 : Hid (Mv [5] w1.drew o1 w2 o2) := g2
                have HO2 : Hid (OutAt w2 o2 0 _ (.slice a2 rs2.length c2') rs2) := hO2
                have HR2 : Hid (rs2.map (·.1) = R) := hrs2
                clear g1 g2 hO2 hrs2
                refine ⟨⟨⟨w2, o2, (mv_undrew HM2.out).widen (by simp)⟩, rfl⟩, ?_⟩
                refine ord_mem rfl rfl ?_
                go_simp
                refine (HH2.out w2 o2 HM2.out).mono ?_
                rintro r w3 ⟨v3, rfl, o3, rs3, hrs3, g1, hO3, g2⟩
                obtain ⟨a3, c3', hv3, _⟩ := slice_of_own hO3.row
                subst hv3
                have HG3 : Hid (PG w w3 w.heap.size bR most o3 MN) := HG1.out.drew.both HG2.out HM2.out g1 g2
                have HM3 : Hid (Mv [5, 6] w1 o1 w3 o3) := (show Mv _ _ _ _ _ from ((mv_undrew HM2.out).widen (by simp)).trans (g2.widen (by simp)))
                have HRE1 : Hid (Calls _ _ _ _ _) := HRE0.out w2 w3 o2 o3 _ _ rs2 rs3 _ _ HO2.out g2 hO3 HR2.out hrs3
                clear g1 g2 hO3 hrs3
                refine ⟨⟨⟨w3, o3, HM3.out⟩, rfl⟩, ?_⟩
                refine ord_mem rfl rfl ?_
                go_simp
                refine HRE1.out.mono ?_
                rintro r w4 ⟨rfl, hb4⟩
                have HG : Hid (PG w w4 w.heap.size bR most (newTo o3 w3 0) MN) := HG3.out.past hb4
                have HM4 : Hid (Mv [5, 6] w1 o1 w4 (newTo o3 w3 0)) := HM3.out.trans (Mv.of_below 0 hb4)
                clear hb4
                refine ⟨⟨⟨w4, _, HM4.out⟩, rfl⟩, ?_⟩
                refine ord_still rfl rfl ?_
                go_big_quiet_step (fail)
                refine wpQuiet_nil ?_
                refine ord_end ?_
                clear c1 c2 ne
                clear HG2 HM2 HM3 HM4 HG3 HH1 HH2 HBk HX1 HKx HG1 HO2 HR2 HRE1 HRE0
                generalize hwN : w4 = wN at *
                generalize hoN : newTo o3 w3 0 = oN at *
                clear hwN hoN
                have RF := rfirst_any HG.out.bufR
                have BF := bfirst_any HG.out.bufP
                clear RF
                have HRF : Hid (∀ w2 o2, PG w w2 w.heap.size bR most o2 MN → Calls Try.prog 21 #[ptr bR] w2 fun r w' => ∃ y, r = .returned (.tuple #[ev (fE MN) y, .bool (fB MN)]) ∧ Kp0 w' (newTo o2 w2 0) y (fE MN).b ∧ Below w2.heap.size w2 w') := fun w2 o2 p => rfirst_any p.bufR
                have HSM := fun (w2 : World) (y1 y2 : Value) (h1 : Rd w2 y1 (fE MN).b) (h2 : Rd w2 y2 (fE MN).b) => refsameE_any w2 (fE MN) (fE MN) y1 y2 h1 h2
                rw [(sameB_iff (fE MN) (fE MN)).2 rfl] at HSM
                generalize hfe : fE MN = f at *
                generalize fB MN = fb0 at *
                clear hfe
                obtain ⟨fw, fi, fp, ft, fu, fn, fb, fg⟩ := f
                unfold ev at BF HRF HSM
                dsimp only at *
                have HBF : Hid (Calls _ _ _ _ _) := BF
                have HSm : Hid (_) := HSM
                clear BF HSM
                go_upto_region 27 with (first
                  | (go_at_call 20; go_must (refine HBF.out.mono ?_; rintro r w5 ⟨y1, rfl, hy1, hb5⟩; obtain ⟨ay1, cy1, hyy⟩ := hy1.1.len; subst hyy; have G5 := (HG.out.past hb5).past (balloc (Below.refl _ w5) (.cells #[.int .i64 fw, .int .i64 fi, .int .u64 fp, .int .i64 ft, .int .i64 fu, .int .i64 fn, .slice ay1 fb.length cy1, .int .u64 fg] 38)); have HG5 : Hid (PG w (w5.alloc (.cells #[.int .i64 fw, .int .i64 fi, .int .u64 fp, .int .i64 ft, .int .i64 fu, .int .i64 fn, .slice ay1 fb.length cy1, .int .u64 fg] 38)) w.heap.size bR most (newTo (newTo oN wN 0) w5 0) MN) := G5; have HY5 : Hid (Kp0 (w5.alloc (.cells #[.int .i64 fw, .int .i64 fi, .int .u64 fp, .int .i64 ft, .int .i64 fu, .int .i64 fn, .slice ay1 fb.length cy1, .int .u64 fg] 38)) (newTo (newTo oN wN 0) w5 0) (.slice ay1 fb.length cy1) fb) := hy1.mv (Mv.of_below (I := []) 0 (balloc (Below.refl _ _) _)) (by simp); have HX5 : Hid (Blk (w5.alloc (.cells #[.int .i64 fw, .int .i64 fi, .int .u64 fp, .int .i64 ft, .int .i64 fu, .int .i64 fn, .slice ay1 fb.length cy1, .int .u64 fg] 38)) w5.heap.size 38 [.int .i64 fw, .int .i64 fi, .int .u64 fp, .int .i64 ft, .int .i64 fu, .int .i64 fn, .slice ay1 fb.length cy1, .int .u64 fg]) := blk_new w5 _ 38; clear hy1 hb5 G5))
                  | (go_at_call 21; go_must (refine (HRF.out _ _ HG5.out).mono ?_; rintro r w6 ⟨y2, rfl, hy2, hb6⟩; obtain ⟨ay2, cy2, hyy⟩ := hy2.1.len; subst hyy; have hb7 := bnext hb6 (balloc (Below.refl _ w6) (.cells #[.int .i64 fw, .int .i64 fi, .int .u64 fp, .int .i64 ft, .int .i64 fu, .int .i64 fn, .slice ay2 fb.length cy2, .int .u64 fg] 38)); have HG7 : Hid (PG w (w6.alloc (.cells #[.int .i64 fw, .int .i64 fi, .int .u64 fp, .int .i64 ft, .int .i64 fu, .int .i64 fn, .slice ay2 fb.length cy2, .int .u64 fg] 38)) w.heap.size bR most _ MN) := HG5.out.past hb7; have HY7 : Hid (Rd (w6.alloc (.cells #[.int .i64 fw, .int .i64 fi, .int .u64 fp, .int .i64 ft, .int .i64 fu, .int .i64 fn, .slice ay2 fb.length cy2, .int .u64 fg] 38)) (.slice ay1 fb.length cy1) fb) := HY5.out.1.below hb7; have HZ7 : Hid (Rd (w6.alloc (.cells #[.int .i64 fw, .int .i64 fi, .int .u64 fp, .int .i64 ft, .int .i64 fu, .int .i64 fn, .slice ay2 fb.length cy2, .int .u64 fg] 38)) (.slice ay2 fb.length cy2) fb) := hy2.1.below (balloc (Below.refl _ _) _); have HX7 : Hid (Blk (w6.alloc (.cells #[.int .i64 fw, .int .i64 fi, .int .u64 fp, .int .i64 ft, .int .i64 fu, .int .i64 fn, .slice ay2 fb.length cy2, .int .u64 fg] 38)) w5.heap.size 38 [.int .i64 fw, .int .i64 fi, .int .u64 fp, .int .i64 ft, .int .i64 fu, .int .i64 fn, .slice ay1 fb.length cy1, .int .u64 fg]) := HX5.out.below hb7; have HW7 : Hid (Blk (w6.alloc (.cells #[.int .i64 fw, .int .i64 fi, .int .u64 fp, .int .i64 ft, .int .i64 fu, .int .i64 fn, .slice ay2 fb.length cy2, .int .u64 fg] 38)) w6.heap.size 38 [.int .i64 fw, .int .i64 fi, .int .u64 fp, .int .i64 ft, .int .i64 fu, .int .i64 fn, .slice ay2 fb.length cy2, .int .u64 fg]) := blk_new w6 _ 38; clear hy2 hb6 hb7)))
                generalize w5.heap.size = b15 at HX7 ⊢
                generalize w6.heap.size = b17 at HW7 ⊢
                clear HX5 HY5 HG5
                generalize w6.alloc (.cells #[.int .i64 fw, .int .i64 fi, .int .u64 fp, .int .i64 ft, .int .i64 fu, .int .i64 fn, .slice ay2 fb.length cy2, .int .u64 fg] 38) = w7 at HG7 HY7 HZ7 HX7 HW7 ⊢
                generalize newTo (newTo (newTo oN wN 0) w5 0) (w5.alloc (.cells #[.int .i64 fw, .int .i64 fi, .int .u64 fp, .int .i64 ft, .int .i64 fu, .int .i64 fn, .slice ay1 fb.length cy1, .int .u64 fg] 38)) 0 = o7 at HG7
                obtain ⟨vR, psR, hRA⟩ := HG7.out.bufR
                have hRl := hRA.len
                obtain ⟨aR, cR, hvR⟩ := hRA.out.rowE.len
                rw [hRl] at hvR
                subst hvR
                have HRA : Hid (RBufAt w7 o7 6 bR most (.slice aR MN.length cR) psR MN) := hRA
                have hMl := HG7.out.bufP.len
                clear hRA hRl
                have BL := blen_any HG7.out.bufP
                have AL := fun (w8 : World) (hb : Below w7.heap.size w7 w8) => ball_any (HG7.out.past hb).bufP
                have HBL : Hid (∀ w8, Below w7.heap.size w7 w8 → Calls Try.prog 22 #[ptr w.heap.size] w8 fun r w' => r = .returned (.int .i64 (MN.length : Int)) ∧ w' = w8) := fun w8 hb => blen_any (HG7.out.past hb).bufP
                have HAL : Hid (_) := AL
                have HRE : Hid (∀ (w8 w9 : World) (v9 : Value) (rs9 : List (Ent × Value)), Below w7.heap.size w7 w8 → Below w8.heap.size w8 w9 → rs9.map (·.1) = MN → OutAt w9 (newTo (newTo o7 w7 0) w8 0) 0 w8.heap.size v9 rs9 → Calls Try.prog 15 #[v9, .slice aR MN.length cR] w9 fun r w' => r = .returned (.bool true) ∧ Below w9.heap.size w9 w') := fun w8 w9 v9 rs9 h8 h9 hm hO => by
                  have hR9 := (HRA.out.below h8).below h9
                  exact refall_eq hO.rowE hO.ents hR9.out.rowE hR9.out.ents (hm.trans hR9.map.symm)
                clear BL AL
                have m0 := fun z : WIn (fun w' => Below w7.heap.size w7 w') => (HX7.out.below z.ok).cell 0 _ rfl
                have m1 := fun z : WIn (fun w' => Below w7.heap.size w7 w') => (HX7.out.below z.ok).cell 1 _ rfl
                have m2 := fun z : WIn (fun w' => Below w7.heap.size w7 w') => (HX7.out.below z.ok).cell 2 _ rfl
                have m3 := fun z : WIn (fun w' => Below w7.heap.size w7 w') => (HX7.out.below z.ok).cell 3 _ rfl
                have m4 := fun z : WIn (fun w' => Below w7.heap.size w7 w') => (HX7.out.below z.ok).cell 4 _ rfl
                have m5 := fun z : WIn (fun w' => Below w7.heap.size w7 w') => (HX7.out.below z.ok).cell 5 _ rfl
                have m6 := fun z : WIn (fun w' => Below w7.heap.size w7 w') => (HX7.out.below z.ok).cell 6 _ rfl
                have m7 := fun z : WIn (fun w' => Below w7.heap.size w7 w') => (HX7.out.below z.ok).cell 7 _ rfl
                have n0 := fun z : WIn (fun w' => Below w7.heap.size w7 w') => (HW7.out.below z.ok).cell 0 _ rfl
                have n1 := fun z : WIn (fun w' => Below w7.heap.size w7 w') => (HW7.out.below z.ok).cell 1 _ rfl
                have n2 := fun z : WIn (fun w' => Below w7.heap.size w7 w') => (HW7.out.below z.ok).cell 2 _ rfl
                have n3 := fun z : WIn (fun w' => Below w7.heap.size w7 w') => (HW7.out.below z.ok).cell 3 _ rfl
                have n4 := fun z : WIn (fun w' => Below w7.heap.size w7 w') => (HW7.out.below z.ok).cell 4 _ rfl
                have n5 := fun z : WIn (fun w' => Below w7.heap.size w7 w') => (HW7.out.below z.ok).cell 5 _ rfl
                have n6 := fun z : WIn (fun w' => Below w7.heap.size w7 w') => (HW7.out.below z.ok).cell 6 _ rfl
                have n7 := fun z : WIn (fun w' => Below w7.heap.size w7 w') => (HW7.out.below z.ok).cell 7 _ rfl
                have lR := fun z : WIn (fun w' => Below w7.heap.size w7 w') => (HRA.out.below z.ok).blk.cell 1 _ rfl
                have ne : Nonempty (WIn (fun w' => Below w7.heap.size w7 w')) := ⟨⟨w7, Below.refl _ _⟩⟩
                refine wp_region_ord (C := fun w' => ∃ z : WIn (fun w' => Below w7.heap.size w7 w'), w' = z.w) [(false, 0), (false, 1), (false, 2), (false, 3), (false, 4), (false, 5), (false, 6), (false, 7), (false, 8), (false, 9), (true, 10), (false, 11), (false, 12), (false, 13), (false, 14), (false, 16), (false, 17), (false, 18), (false, 19), (false, 20), (true, 15), (false, 21), (false, 22), (false, 23), (false, 24), (false, 26), (false, 27), (false, 28), (false, 29), (true, 25), (true, 30), (false, 31), (false, 32)] (by kernel_rfl) (by kernel_rfl) ⟨⟨w7.drew, (Below.refl _ _).drew⟩, rfl⟩ ?_
                iterate 10 (refine ord_still rfl rfl ?_; go_big_quiet_step (fail); refine wpQuiet_nil ?_)
                refine ord_mem rfl rfl ?_
                go_simp
                refine (HSm.out w7.drew _ _ HY7.out.drew HZ7.out.drew).mono ?_
                rintro r w8 ⟨rfl, hb8⟩
                have HB8 : Hid (Below w7.heap.size w7 w8) := below_undrew hb8
                clear hb8
                refine ⟨⟨⟨w8, HB8.out⟩, rfl⟩, ?_⟩
                iterate 9 (refine ord_still rfl rfl ?_; go_big_quiet_step (fail); refine wpQuiet_nil ?_)
                refine ord_mem rfl rfl ?_
                go_simp
                refine (HBL.out w8 HB8.out).mono ?_
                rintro r w9 ⟨rfl, hw9⟩
                replace hw9 := hw9.symm
                subst hw9
                refine ⟨⟨⟨w8, HB8.out⟩, rfl⟩, ?_⟩
                iterate 8 (refine ord_still rfl rfl ?_; go_big_quiet_step (fail); refine wpQuiet_nil ?_)
                refine ord_mem rfl rfl ?_
                go_simp
                refine (HAL.out w8 HB8.out).mono ?_
                rintro r w9 ⟨v9, rfl, rs9, hrs9, hO9, hb9⟩
                obtain ⟨a9, c9, hv9, _⟩ := slice_of_own hO9.row
                subst hv9
                have RE9 := HRE.out w8 w9 _ rs9 HB8.out hb9 hrs9 hO9
                have HRE9 : Hid (Calls _ _ _ _ _) := RE9
                have HB9 : Hid (Below w7.heap.size w7 w9) := bnext HB8.out hb9
                clear hrs9 hO9 hb9 RE9
                refine ⟨⟨⟨w9, HB9.out⟩, rfl⟩, ?_⟩
                refine ord_mem rfl rfl ?_
                go_simp
                refine HRE9.out.mono ?_
                rintro r w10 ⟨rfl, hb10⟩
                have HB10 : Hid (Below w7.heap.size w7 w10) := bnext HB9.out hb10
                clear hb10
                refine ⟨⟨⟨w10, HB10.out⟩, rfl⟩, ?_⟩
                iterate 2 (refine ord_still rfl rfl ?_; go_big_quiet_step (fail); refine wpQuiet_nil ?_)
                refine ord_end ?_
                clear m0 m1 m2 m3 m4 m5 m6 m7 n0 n1 n2 n3 n4 n5 n6 n7 lR ne
                have HGE : Hid (∃ o' M, PG w w10 w.heap.size bR most o' M) := ⟨_, MN, HG7.out.past HB10.out⟩
                go_wp2
                go_roundw
                case rel => exact ⟨k + 1, by go_num, by omega, HGE⟩
                case measure => simp [intOf]; omega
              · have k2' : (ok == 2) = false := by simpa using k2
                by_cases k3 : ok = 3
                · subst k3
                  clear k0' k1' k2'
                  have H1 := bdrop_any (a := ow) (n := oi) HG1.out.drew.bufP (by omega)
                  have H2 := fun (w2 : World) (o2 : Nat → Nat) (m : Mv [5] w1.drew o1 w2 o2) => rdrop_any (a := ow) (n := oi) (HG1.out.drew.bufR.mv m (by simp) (by simp)) (by omega) HG1.out.bufP.len
                  generalize ((M.filter (earlyB ow oi)).length : Int) = K at *
                  generalize dropM M ow oi = MN at *
                  have HH1 : Hid (Calls _ _ _ _ _) := H1
                  have HH2 : Hid (_) := H2
                  clear H1 H2
                  go_upto_region 24 with fail
                  have c1 := fun z : WIn (fun w' => ∃ o2, Mv [5, 6] w1 o1 w' o2) => (HBk.out z.w z.ok).cell 1 _ rfl
                  have c2 := fun z : WIn (fun w' => ∃ o2, Mv [5, 6] w1 o1 w' o2) => (HBk.out z.w z.ok).cell 2 _ rfl
                  have ne : Nonempty (WIn (fun w' => ∃ o2, Mv [5, 6] w1 o1 w' o2)) := ⟨⟨w1, o1, Mv.refl _ _ _⟩⟩
                  refine wp_region_ord (C := fun w' => ∃ z : WIn (fun w' => ∃ o2, Mv [5, 6] w1 o1 w' o2), w' = z.w) [(false, 0), (false, 1), (false, 2), (false, 3), (false, 4), (false, 6), (false, 7), (false, 8), (false, 9), (false, 10), (true, 5), (true, 11), (false, 12), (false, 13)] (by kernel_rfl) (by kernel_rfl) ⟨⟨w1.drew, o1, mv_drewn w1 o1⟩, rfl⟩ ?_
                  iterate 10 (refine ord_still rfl rfl ?_; go_big_quiet_step (fail); refine wpQuiet_nil ?_)
                  refine ord_mem rfl rfl ?_
                  go_simp
                  refine HH1.out.mono ?_
                  rintro r w2 ⟨rfl, o2, g1, g2⟩
                  have HG2 : Hid (BufIs w2 o2 5 w.heap.size most MN) := g1
                  have HM2 : Hid (Mv [5] w1.drew o1 w2 o2) := g2
                  clear g1 g2
                  refine ⟨⟨⟨w2, o2, (mv_undrew HM2.out).widen (by simp)⟩, rfl⟩, ?_⟩
                  refine ord_mem rfl rfl ?_
                  go_simp
                  refine (HH2.out w2 o2 HM2.out).mono ?_
                  rintro r w3 ⟨rfl, o3, g1, g2⟩
                  have HG : Hid (PG w w3 w.heap.size bR most o3 MN) := HG1.out.drew.both HG2.out HM2.out g1 g2
                  have HM3 : Hid (Mv [5, 6] w1 o1 w3 o3) := (show Mv _ _ _ _ _ from ((mv_undrew HM2.out).widen (by simp)).trans (g2.widen (by simp)))
                  clear g1 g2
                  refine ⟨⟨⟨w3, o3, HM3.out⟩, rfl⟩, ?_⟩
                  iterate 2 (refine ord_still rfl rfl ?_; go_big_quiet_step (fail); refine wpQuiet_nil ?_)
                  refine ord_end ?_
                  clear c1 c2 ne
                  clear HG2 HM2 HM3 HH1 HH2 HBk HX1 HKx HG1
                  generalize hwN : w3 = wN at *
                  generalize hoN : o3 = oN at *
                  clear hwN hoN
                  have RF := rfirst_any HG.out.bufR
                  have BF := bfirst_any HG.out.bufP
                  clear RF
                  have HRF : Hid (∀ w2 o2, PG w w2 w.heap.size bR most o2 MN → Calls Try.prog 21 #[ptr bR] w2 fun r w' => ∃ y, r = .returned (.tuple #[ev (fE MN) y, .bool (fB MN)]) ∧ Kp0 w' (newTo o2 w2 0) y (fE MN).b ∧ Below w2.heap.size w2 w') := fun w2 o2 p => rfirst_any p.bufR
                  have HSM := fun (w2 : World) (y1 y2 : Value) (h1 : Rd w2 y1 (fE MN).b) (h2 : Rd w2 y2 (fE MN).b) => refsameE_any w2 (fE MN) (fE MN) y1 y2 h1 h2
                  rw [(sameB_iff (fE MN) (fE MN)).2 rfl] at HSM
                  generalize hfe : fE MN = f at *
                  generalize fB MN = fb0 at *
                  clear hfe
                  obtain ⟨fw, fi, fp, ft, fu, fn, fb, fg⟩ := f
                  unfold ev at BF HRF HSM
                  dsimp only at *
                  have HBF : Hid (Calls _ _ _ _ _) := BF
                  have HSm : Hid (_) := HSM
                  clear BF HSM
                  go_upto_region 27 with (first
                    | (go_at_call 20; go_must (refine HBF.out.mono ?_; rintro r w5 ⟨y1, rfl, hy1, hb5⟩; obtain ⟨ay1, cy1, hyy⟩ := hy1.1.len; subst hyy; have G5 := (HG.out.past hb5).past (balloc (Below.refl _ w5) (.cells #[.int .i64 fw, .int .i64 fi, .int .u64 fp, .int .i64 ft, .int .i64 fu, .int .i64 fn, .slice ay1 fb.length cy1, .int .u64 fg] 38)); have HG5 : Hid (PG w (w5.alloc (.cells #[.int .i64 fw, .int .i64 fi, .int .u64 fp, .int .i64 ft, .int .i64 fu, .int .i64 fn, .slice ay1 fb.length cy1, .int .u64 fg] 38)) w.heap.size bR most (newTo (newTo oN wN 0) w5 0) MN) := G5; have HY5 : Hid (Kp0 (w5.alloc (.cells #[.int .i64 fw, .int .i64 fi, .int .u64 fp, .int .i64 ft, .int .i64 fu, .int .i64 fn, .slice ay1 fb.length cy1, .int .u64 fg] 38)) (newTo (newTo oN wN 0) w5 0) (.slice ay1 fb.length cy1) fb) := hy1.mv (Mv.of_below (I := []) 0 (balloc (Below.refl _ _) _)) (by simp); have HX5 : Hid (Blk (w5.alloc (.cells #[.int .i64 fw, .int .i64 fi, .int .u64 fp, .int .i64 ft, .int .i64 fu, .int .i64 fn, .slice ay1 fb.length cy1, .int .u64 fg] 38)) w5.heap.size 38 [.int .i64 fw, .int .i64 fi, .int .u64 fp, .int .i64 ft, .int .i64 fu, .int .i64 fn, .slice ay1 fb.length cy1, .int .u64 fg]) := blk_new w5 _ 38; clear hy1 hb5 G5))
                    | (go_at_call 21; go_must (refine (HRF.out _ _ HG5.out).mono ?_; rintro r w6 ⟨y2, rfl, hy2, hb6⟩; obtain ⟨ay2, cy2, hyy⟩ := hy2.1.len; subst hyy; have hb7 := bnext hb6 (balloc (Below.refl _ w6) (.cells #[.int .i64 fw, .int .i64 fi, .int .u64 fp, .int .i64 ft, .int .i64 fu, .int .i64 fn, .slice ay2 fb.length cy2, .int .u64 fg] 38)); have HG7 : Hid (PG w (w6.alloc (.cells #[.int .i64 fw, .int .i64 fi, .int .u64 fp, .int .i64 ft, .int .i64 fu, .int .i64 fn, .slice ay2 fb.length cy2, .int .u64 fg] 38)) w.heap.size bR most _ MN) := HG5.out.past hb7; have HY7 : Hid (Rd (w6.alloc (.cells #[.int .i64 fw, .int .i64 fi, .int .u64 fp, .int .i64 ft, .int .i64 fu, .int .i64 fn, .slice ay2 fb.length cy2, .int .u64 fg] 38)) (.slice ay1 fb.length cy1) fb) := HY5.out.1.below hb7; have HZ7 : Hid (Rd (w6.alloc (.cells #[.int .i64 fw, .int .i64 fi, .int .u64 fp, .int .i64 ft, .int .i64 fu, .int .i64 fn, .slice ay2 fb.length cy2, .int .u64 fg] 38)) (.slice ay2 fb.length cy2) fb) := hy2.1.below (balloc (Below.refl _ _) _); have HX7 : Hid (Blk (w6.alloc (.cells #[.int .i64 fw, .int .i64 fi, .int .u64 fp, .int .i64 ft, .int .i64 fu, .int .i64 fn, .slice ay2 fb.length cy2, .int .u64 fg] 38)) w5.heap.size 38 [.int .i64 fw, .int .i64 fi, .int .u64 fp, .int .i64 ft, .int .i64 fu, .int .i64 fn, .slice ay1 fb.length cy1, .int .u64 fg]) := HX5.out.below hb7; have HW7 : Hid (Blk (w6.alloc (.cells #[.int .i64 fw, .int .i64 fi, .int .u64 fp, .int .i64 ft, .int .i64 fu, .int .i64 fn, .slice ay2 fb.length cy2, .int .u64 fg] 38)) w6.heap.size 38 [.int .i64 fw, .int .i64 fi, .int .u64 fp, .int .i64 ft, .int .i64 fu, .int .i64 fn, .slice ay2 fb.length cy2, .int .u64 fg]) := blk_new w6 _ 38; clear hy2 hb6 hb7)))
                  generalize w5.heap.size = b15 at HX7 ⊢
                  generalize w6.heap.size = b17 at HW7 ⊢
                  clear HX5 HY5 HG5
                  generalize w6.alloc (.cells #[.int .i64 fw, .int .i64 fi, .int .u64 fp, .int .i64 ft, .int .i64 fu, .int .i64 fn, .slice ay2 fb.length cy2, .int .u64 fg] 38) = w7 at HG7 HY7 HZ7 HX7 HW7 ⊢
                  generalize newTo (newTo (newTo oN wN 0) w5 0) (w5.alloc (.cells #[.int .i64 fw, .int .i64 fi, .int .u64 fp, .int .i64 ft, .int .i64 fu, .int .i64 fn, .slice ay1 fb.length cy1, .int .u64 fg] 38)) 0 = o7 at HG7
                  obtain ⟨vR, psR, hRA⟩ := HG7.out.bufR
                  have hRl := hRA.len
                  obtain ⟨aR, cR, hvR⟩ := hRA.out.rowE.len
                  rw [hRl] at hvR
                  subst hvR
                  have HRA : Hid (RBufAt w7 o7 6 bR most (.slice aR MN.length cR) psR MN) := hRA
                  have hMl := HG7.out.bufP.len
                  clear hRA hRl
                  have BL := blen_any HG7.out.bufP
                  have AL := fun (w8 : World) (hb : Below w7.heap.size w7 w8) => ball_any (HG7.out.past hb).bufP
                  have HBL : Hid (∀ w8, Below w7.heap.size w7 w8 → Calls Try.prog 22 #[ptr w.heap.size] w8 fun r w' => r = .returned (.int .i64 (MN.length : Int)) ∧ w' = w8) := fun w8 hb => blen_any (HG7.out.past hb).bufP
                  have HAL : Hid (_) := AL
                  have HRE : Hid (∀ (w8 w9 : World) (v9 : Value) (rs9 : List (Ent × Value)), Below w7.heap.size w7 w8 → Below w8.heap.size w8 w9 → rs9.map (·.1) = MN → OutAt w9 (newTo (newTo o7 w7 0) w8 0) 0 w8.heap.size v9 rs9 → Calls Try.prog 15 #[v9, .slice aR MN.length cR] w9 fun r w' => r = .returned (.bool true) ∧ Below w9.heap.size w9 w') := fun w8 w9 v9 rs9 h8 h9 hm hO => by
                    have hR9 := (HRA.out.below h8).below h9
                    exact refall_eq hO.rowE hO.ents hR9.out.rowE hR9.out.ents (hm.trans hR9.map.symm)
                  clear BL AL
                  have m0 := fun z : WIn (fun w' => Below w7.heap.size w7 w') => (HX7.out.below z.ok).cell 0 _ rfl
                  have m1 := fun z : WIn (fun w' => Below w7.heap.size w7 w') => (HX7.out.below z.ok).cell 1 _ rfl
                  have m2 := fun z : WIn (fun w' => Below w7.heap.size w7 w') => (HX7.out.below z.ok).cell 2 _ rfl
                  have m3 := fun z : WIn (fun w' => Below w7.heap.size w7 w') => (HX7.out.below z.ok).cell 3 _ rfl
                  have m4 := fun z : WIn (fun w' => Below w7.heap.size w7 w') => (HX7.out.below z.ok).cell 4 _ rfl
                  have m5 := fun z : WIn (fun w' => Below w7.heap.size w7 w') => (HX7.out.below z.ok).cell 5 _ rfl
                  have m6 := fun z : WIn (fun w' => Below w7.heap.size w7 w') => (HX7.out.below z.ok).cell 6 _ rfl
                  have m7 := fun z : WIn (fun w' => Below w7.heap.size w7 w') => (HX7.out.below z.ok).cell 7 _ rfl
                  have n0 := fun z : WIn (fun w' => Below w7.heap.size w7 w') => (HW7.out.below z.ok).cell 0 _ rfl
                  have n1 := fun z : WIn (fun w' => Below w7.heap.size w7 w') => (HW7.out.below z.ok).cell 1 _ rfl
                  have n2 := fun z : WIn (fun w' => Below w7.heap.size w7 w') => (HW7.out.below z.ok).cell 2 _ rfl
                  have n3 := fun z : WIn (fun w' => Below w7.heap.size w7 w') => (HW7.out.below z.ok).cell 3 _ rfl
                  have n4 := fun z : WIn (fun w' => Below w7.heap.size w7 w') => (HW7.out.below z.ok).cell 4 _ rfl
                  have n5 := fun z : WIn (fun w' => Below w7.heap.size w7 w') => (HW7.out.below z.ok).cell 5 _ rfl
                  have n6 := fun z : WIn (fun w' => Below w7.heap.size w7 w') => (HW7.out.below z.ok).cell 6 _ rfl
                  have n7 := fun z : WIn (fun w' => Below w7.heap.size w7 w') => (HW7.out.below z.ok).cell 7 _ rfl
                  have lR := fun z : WIn (fun w' => Below w7.heap.size w7 w') => (HRA.out.below z.ok).blk.cell 1 _ rfl
                  have ne : Nonempty (WIn (fun w' => Below w7.heap.size w7 w')) := ⟨⟨w7, Below.refl _ _⟩⟩
                  refine wp_region_ord (C := fun w' => ∃ z : WIn (fun w' => Below w7.heap.size w7 w'), w' = z.w) [(false, 0), (false, 1), (false, 2), (false, 3), (false, 4), (false, 5), (false, 6), (false, 7), (false, 8), (false, 9), (true, 10), (false, 11), (false, 12), (false, 13), (false, 14), (false, 16), (false, 17), (false, 18), (false, 19), (false, 20), (true, 15), (false, 21), (false, 22), (false, 23), (false, 24), (false, 26), (false, 27), (false, 28), (false, 29), (true, 25), (true, 30), (false, 31), (false, 32)] (by kernel_rfl) (by kernel_rfl) ⟨⟨w7.drew, (Below.refl _ _).drew⟩, rfl⟩ ?_
                  iterate 10 (refine ord_still rfl rfl ?_; go_big_quiet_step (fail); refine wpQuiet_nil ?_)
                  refine ord_mem rfl rfl ?_
                  go_simp
                  refine (HSm.out w7.drew _ _ HY7.out.drew HZ7.out.drew).mono ?_
                  rintro r w8 ⟨rfl, hb8⟩
                  have HB8 : Hid (Below w7.heap.size w7 w8) := below_undrew hb8
                  clear hb8
                  refine ⟨⟨⟨w8, HB8.out⟩, rfl⟩, ?_⟩
                  iterate 9 (refine ord_still rfl rfl ?_; go_big_quiet_step (fail); refine wpQuiet_nil ?_)
                  refine ord_mem rfl rfl ?_
                  go_simp
                  refine (HBL.out w8 HB8.out).mono ?_
                  rintro r w9 ⟨rfl, hw9⟩
                  replace hw9 := hw9.symm
                  subst hw9
                  refine ⟨⟨⟨w8, HB8.out⟩, rfl⟩, ?_⟩
                  iterate 8 (refine ord_still rfl rfl ?_; go_big_quiet_step (fail); refine wpQuiet_nil ?_)
                  refine ord_mem rfl rfl ?_
                  go_simp
                  refine (HAL.out w8 HB8.out).mono ?_
                  rintro r w9 ⟨v9, rfl, rs9, hrs9, hO9, hb9⟩
                  obtain ⟨a9, c9, hv9, _⟩ := slice_of_own hO9.row
                  subst hv9
                  have RE9 := HRE.out w8 w9 _ rs9 HB8.out hb9 hrs9 hO9
                  have HRE9 : Hid (Calls _ _ _ _ _) := RE9
                  have HB9 : Hid (Below w7.heap.size w7 w9) := bnext HB8.out hb9
                  clear hrs9 hO9 hb9 RE9
                  refine ⟨⟨⟨w9, HB9.out⟩, rfl⟩, ?_⟩
                  refine ord_mem rfl rfl ?_
                  go_simp
                  refine HRE9.out.mono ?_
                  rintro r w10 ⟨rfl, hb10⟩
                  have HB10 : Hid (Below w7.heap.size w7 w10) := bnext HB9.out hb10
                  clear hb10
                  refine ⟨⟨⟨w10, HB10.out⟩, rfl⟩, ?_⟩
                  iterate 2 (refine ord_still rfl rfl ?_; go_big_quiet_step (fail); refine wpQuiet_nil ?_)
                  refine ord_end ?_
                  clear m0 m1 m2 m3 m4 m5 m6 m7 n0 n1 n2 n3 n4 n5 n6 n7 lR ne
                  have HGE : Hid (∃ o' M, PG w w10 w.heap.size bR most o' M) := ⟨_, MN, HG7.out.past HB10.out⟩
                  go_wp2
                  go_roundw
                  case rel => exact ⟨k + 1, by go_num, by omega, HGE⟩
                  case measure => simp [intOf]; omega
                · have k3' : (ok == 3) = false := by simpa using k3
                  clear k0 k1 k2 k3
                  have HX1' : Hid True := trivial
                  have HG : Hid (PG w w1 w.heap.size bR most o1 M) := HG1
                  clear HBk HX1' HKx HG1
                  generalize hMN : M = MN at *
                  generalize hwN : w1 = wN at *
                  generalize hoN : o1 = oN at *
                  clear hwN hoN hMN
                  have RF := rfirst_any HG.out.bufR
                  have BF := bfirst_any HG.out.bufP
                  clear RF
                  have HRF : Hid (∀ w2 o2, PG w w2 w.heap.size bR most o2 MN → Calls Try.prog 21 #[ptr bR] w2 fun r w' => ∃ y, r = .returned (.tuple #[ev (fE MN) y, .bool (fB MN)]) ∧ Kp0 w' (newTo o2 w2 0) y (fE MN).b ∧ Below w2.heap.size w2 w') := fun w2 o2 p => rfirst_any p.bufR
                  have HSM := fun (w2 : World) (y1 y2 : Value) (h1 : Rd w2 y1 (fE MN).b) (h2 : Rd w2 y2 (fE MN).b) => refsameE_any w2 (fE MN) (fE MN) y1 y2 h1 h2
                  rw [(sameB_iff (fE MN) (fE MN)).2 rfl] at HSM
                  generalize hfe : fE MN = f at *
                  generalize fB MN = fb0 at *
                  clear hfe
                  obtain ⟨fw, fi, fp, ft, fu, fn, fb, fg⟩ := f
                  unfold ev at BF HRF HSM
                  dsimp only at *
                  have HBF : Hid (Calls _ _ _ _ _) := BF
                  have HSm : Hid (_) := HSM
                  clear BF HSM
                  go_upto_region 27 with (first
                    | (go_at_call 20; go_must (refine HBF.out.mono ?_; rintro r w5 ⟨y1, rfl, hy1, hb5⟩; obtain ⟨ay1, cy1, hyy⟩ := hy1.1.len; subst hyy; have G5 := (HG.out.past hb5).past (balloc (Below.refl _ w5) (.cells #[.int .i64 fw, .int .i64 fi, .int .u64 fp, .int .i64 ft, .int .i64 fu, .int .i64 fn, .slice ay1 fb.length cy1, .int .u64 fg] 38)); have HG5 : Hid (PG w (w5.alloc (.cells #[.int .i64 fw, .int .i64 fi, .int .u64 fp, .int .i64 ft, .int .i64 fu, .int .i64 fn, .slice ay1 fb.length cy1, .int .u64 fg] 38)) w.heap.size bR most (newTo (newTo oN wN 0) w5 0) MN) := G5; have HY5 : Hid (Kp0 (w5.alloc (.cells #[.int .i64 fw, .int .i64 fi, .int .u64 fp, .int .i64 ft, .int .i64 fu, .int .i64 fn, .slice ay1 fb.length cy1, .int .u64 fg] 38)) (newTo (newTo oN wN 0) w5 0) (.slice ay1 fb.length cy1) fb) := hy1.mv (Mv.of_below (I := []) 0 (balloc (Below.refl _ _) _)) (by simp); have HX5 : Hid (Blk (w5.alloc (.cells #[.int .i64 fw, .int .i64 fi, .int .u64 fp, .int .i64 ft, .int .i64 fu, .int .i64 fn, .slice ay1 fb.length cy1, .int .u64 fg] 38)) w5.heap.size 38 [.int .i64 fw, .int .i64 fi, .int .u64 fp, .int .i64 ft, .int .i64 fu, .int .i64 fn, .slice ay1 fb.length cy1, .int .u64 fg]) := blk_new w5 _ 38; clear hy1 hb5 G5))
                    | (go_at_call 21; go_must (refine (HRF.out _ _ HG5.out).mono ?_; rintro r w6 ⟨y2, rfl, hy2, hb6⟩; obtain ⟨ay2, cy2, hyy⟩ := hy2.1.len; subst hyy; have hb7 := bnext hb6 (balloc (Below.refl _ w6) (.cells #[.int .i64 fw, .int .i64 fi, .int .u64 fp, .int .i64 ft, .int .i64 fu, .int .i64 fn, .slice ay2 fb.length cy2, .int .u64 fg] 38)); have HG7 : Hid (PG w (w6.alloc (.cells #[.int .i64 fw, .int .i64 fi, .int .u64 fp, .int .i64 ft, .int .i64 fu, .int .i64 fn, .slice ay2 fb.length cy2, .int .u64 fg] 38)) w.heap.size bR most _ MN) := HG5.out.past hb7; have HY7 : Hid (Rd (w6.alloc (.cells #[.int .i64 fw, .int .i64 fi, .int .u64 fp, .int .i64 ft, .int .i64 fu, .int .i64 fn, .slice ay2 fb.length cy2, .int .u64 fg] 38)) (.slice ay1 fb.length cy1) fb) := HY5.out.1.below hb7; have HZ7 : Hid (Rd (w6.alloc (.cells #[.int .i64 fw, .int .i64 fi, .int .u64 fp, .int .i64 ft, .int .i64 fu, .int .i64 fn, .slice ay2 fb.length cy2, .int .u64 fg] 38)) (.slice ay2 fb.length cy2) fb) := hy2.1.below (balloc (Below.refl _ _) _); have HX7 : Hid (Blk (w6.alloc (.cells #[.int .i64 fw, .int .i64 fi, .int .u64 fp, .int .i64 ft, .int .i64 fu, .int .i64 fn, .slice ay2 fb.length cy2, .int .u64 fg] 38)) w5.heap.size 38 [.int .i64 fw, .int .i64 fi, .int .u64 fp, .int .i64 ft, .int .i64 fu, .int .i64 fn, .slice ay1 fb.length cy1, .int .u64 fg]) := HX5.out.below hb7; have HW7 : Hid (Blk (w6.alloc (.cells #[.int .i64 fw, .int .i64 fi, .int .u64 fp, .int .i64 ft, .int .i64 fu, .int .i64 fn, .slice ay2 fb.length cy2, .int .u64 fg] 38)) w6.heap.size 38 [.int .i64 fw, .int .i64 fi, .int .u64 fp, .int .i64 ft, .int .i64 fu, .int .i64 fn, .slice ay2 fb.length cy2, .int .u64 fg]) := blk_new w6 _ 38; clear hy2 hb6 hb7)))
                  generalize w5.heap.size = b15 at HX7 ⊢
                  generalize w6.heap.size = b17 at HW7 ⊢
                  clear HX5 HY5 HG5
                  generalize w6.alloc (.cells #[.int .i64 fw, .int .i64 fi, .int .u64 fp, .int .i64 ft, .int .i64 fu, .int .i64 fn, .slice ay2 fb.length cy2, .int .u64 fg] 38) = w7 at HG7 HY7 HZ7 HX7 HW7 ⊢
                  generalize newTo (newTo (newTo oN wN 0) w5 0) (w5.alloc (.cells #[.int .i64 fw, .int .i64 fi, .int .u64 fp, .int .i64 ft, .int .i64 fu, .int .i64 fn, .slice ay1 fb.length cy1, .int .u64 fg] 38)) 0 = o7 at HG7
                  obtain ⟨vR, psR, hRA⟩ := HG7.out.bufR
                  have hRl := hRA.len
                  obtain ⟨aR, cR, hvR⟩ := hRA.out.rowE.len
                  rw [hRl] at hvR
                  subst hvR
                  have HRA : Hid (RBufAt w7 o7 6 bR most (.slice aR MN.length cR) psR MN) := hRA
                  have hMl := HG7.out.bufP.len
                  clear hRA hRl
                  have BL := blen_any HG7.out.bufP
                  have AL := fun (w8 : World) (hb : Below w7.heap.size w7 w8) => ball_any (HG7.out.past hb).bufP
                  have HBL : Hid (∀ w8, Below w7.heap.size w7 w8 → Calls Try.prog 22 #[ptr w.heap.size] w8 fun r w' => r = .returned (.int .i64 (MN.length : Int)) ∧ w' = w8) := fun w8 hb => blen_any (HG7.out.past hb).bufP
                  have HAL : Hid (_) := AL
                  have HRE : Hid (∀ (w8 w9 : World) (v9 : Value) (rs9 : List (Ent × Value)), Below w7.heap.size w7 w8 → Below w8.heap.size w8 w9 → rs9.map (·.1) = MN → OutAt w9 (newTo (newTo o7 w7 0) w8 0) 0 w8.heap.size v9 rs9 → Calls Try.prog 15 #[v9, .slice aR MN.length cR] w9 fun r w' => r = .returned (.bool true) ∧ Below w9.heap.size w9 w') := fun w8 w9 v9 rs9 h8 h9 hm hO => by
                    have hR9 := (HRA.out.below h8).below h9
                    exact refall_eq hO.rowE hO.ents hR9.out.rowE hR9.out.ents (hm.trans hR9.map.symm)
                  clear BL AL
                  have m0 := fun z : WIn (fun w' => Below w7.heap.size w7 w') => (HX7.out.below z.ok).cell 0 _ rfl
                  have m1 := fun z : WIn (fun w' => Below w7.heap.size w7 w') => (HX7.out.below z.ok).cell 1 _ rfl
                  have m2 := fun z : WIn (fun w' => Below w7.heap.size w7 w') => (HX7.out.below z.ok).cell 2 _ rfl
                  have m3 := fun z : WIn (fun w' => Below w7.heap.size w7 w') => (HX7.out.below z.ok).cell 3 _ rfl
                  have m4 := fun z : WIn (fun w' => Below w7.heap.size w7 w') => (HX7.out.below z.ok).cell 4 _ rfl
                  have m5 := fun z : WIn (fun w' => Below w7.heap.size w7 w') => (HX7.out.below z.ok).cell 5 _ rfl
                  have m6 := fun z : WIn (fun w' => Below w7.heap.size w7 w') => (HX7.out.below z.ok).cell 6 _ rfl
                  have m7 := fun z : WIn (fun w' => Below w7.heap.size w7 w') => (HX7.out.below z.ok).cell 7 _ rfl
                  have n0 := fun z : WIn (fun w' => Below w7.heap.size w7 w') => (HW7.out.below z.ok).cell 0 _ rfl
                  have n1 := fun z : WIn (fun w' => Below w7.heap.size w7 w') => (HW7.out.below z.ok).cell 1 _ rfl
                  have n2 := fun z : WIn (fun w' => Below w7.heap.size w7 w') => (HW7.out.below z.ok).cell 2 _ rfl
                  have n3 := fun z : WIn (fun w' => Below w7.heap.size w7 w') => (HW7.out.below z.ok).cell 3 _ rfl
                  have n4 := fun z : WIn (fun w' => Below w7.heap.size w7 w') => (HW7.out.below z.ok).cell 4 _ rfl
                  have n5 := fun z : WIn (fun w' => Below w7.heap.size w7 w') => (HW7.out.below z.ok).cell 5 _ rfl
                  have n6 := fun z : WIn (fun w' => Below w7.heap.size w7 w') => (HW7.out.below z.ok).cell 6 _ rfl
                  have n7 := fun z : WIn (fun w' => Below w7.heap.size w7 w') => (HW7.out.below z.ok).cell 7 _ rfl
                  have lR := fun z : WIn (fun w' => Below w7.heap.size w7 w') => (HRA.out.below z.ok).blk.cell 1 _ rfl
                  have ne : Nonempty (WIn (fun w' => Below w7.heap.size w7 w')) := ⟨⟨w7, Below.refl _ _⟩⟩
                  refine wp_region_ord (C := fun w' => ∃ z : WIn (fun w' => Below w7.heap.size w7 w'), w' = z.w) [(false, 0), (false, 1), (false, 2), (false, 3), (false, 4), (false, 5), (false, 6), (false, 7), (false, 8), (false, 9), (true, 10), (false, 11), (false, 12), (false, 13), (false, 14), (false, 16), (false, 17), (false, 18), (false, 19), (false, 20), (true, 15), (false, 21), (false, 22), (false, 23), (false, 24), (false, 26), (false, 27), (false, 28), (false, 29), (true, 25), (true, 30), (false, 31), (false, 32)] (by kernel_rfl) (by kernel_rfl) ⟨⟨w7.drew, (Below.refl _ _).drew⟩, rfl⟩ ?_
                  iterate 10 (refine ord_still rfl rfl ?_; go_big_quiet_step (fail); refine wpQuiet_nil ?_)
                  refine ord_mem rfl rfl ?_
                  go_simp
                  refine (HSm.out w7.drew _ _ HY7.out.drew HZ7.out.drew).mono ?_
                  rintro r w8 ⟨rfl, hb8⟩
                  have HB8 : Hid (Below w7.heap.size w7 w8) := below_undrew hb8
                  clear hb8
                  refine ⟨⟨⟨w8, HB8.out⟩, rfl⟩, ?_⟩
                  iterate 9 (refine ord_still rfl rfl ?_; go_big_quiet_step (fail); refine wpQuiet_nil ?_)
                  refine ord_mem rfl rfl ?_
                  go_simp
                  refine (HBL.out w8 HB8.out).mono ?_
                  rintro r w9 ⟨rfl, hw9⟩
                  replace hw9 := hw9.symm
                  subst hw9
                  refine ⟨⟨⟨w8, HB8.out⟩, rfl⟩, ?_⟩
                  iterate 8 (refine ord_still rfl rfl ?_; go_big_quiet_step (fail); refine wpQuiet_nil ?_)
                  refine ord_mem rfl rfl ?_
                  go_simp
                  refine (HAL.out w8 HB8.out).mono ?_
                  rintro r w9 ⟨v9, rfl, rs9, hrs9, hO9, hb9⟩
                  obtain ⟨a9, c9, hv9, _⟩ := slice_of_own hO9.row
                  subst hv9
                  have RE9 := HRE.out w8 w9 _ rs9 HB8.out hb9 hrs9 hO9
                  have HRE9 : Hid (Calls _ _ _ _ _) := RE9
                  have HB9 : Hid (Below w7.heap.size w7 w9) := bnext HB8.out hb9
                  clear hrs9 hO9 hb9 RE9
                  refine ⟨⟨⟨w9, HB9.out⟩, rfl⟩, ?_⟩
                  refine ord_mem rfl rfl ?_
                  go_simp
                  refine HRE9.out.mono ?_
                  rintro r w10 ⟨rfl, hb10⟩
                  have HB10 : Hid (Below w7.heap.size w7 w10) := bnext HB9.out hb10
                  clear hb10
                  refine ⟨⟨⟨w10, HB10.out⟩, rfl⟩, ?_⟩
                  iterate 2 (refine ord_still rfl rfl ?_; go_big_quiet_step (fail); refine wpQuiet_nil ?_)
                  refine ord_end ?_
                  clear m0 m1 m2 m3 m4 m5 m6 m7 n0 n1 n2 n3 n4 n5 n6 n7 lR ne
                  have HGE : Hid (∃ o' M, PG w w10 w.heap.size bR most o' M) := ⟨_, MN, HG7.out.past HB10.out⟩
                  go_wp2
                  go_roundw
                  case rel => exact ⟨k + 1, by go_num, by omega, HGE⟩
                  case measure => simp [intOf]; omega
        · obtain rfl : k = l.length := by omega
          have HBw : Hid (Below w.heap.size w wr) := p.below
          clear HI p HS
          go_wp2
          go_ret
          exact ⟨rfl, HBw.out⟩
    · go_ret
      exact ⟨rfl, hb8⟩
  · have HN : Hid (Calls Try.prog 9 #[.int .i64 most] w fun r w' => r = .returned (.tuple #[.pointer none, .int .i64 1]) ∧ w' = w) := bnew_bad w most hm
    by_cases c1 : most < 1
    · go_enter Try.func3, Try.ntmps3
      go_wp2_with (first
        | (go_at_call 7; go_must (refine HLt.out.mono ?_; rintro r w2 ⟨hr, hw2⟩; replace hw2 := hw2.symm; subst hw2; rcases hr with hr | hr <;> subst hr))
        | (go_at_call 9; go_must (refine HN.out.mono ?_; rintro r w1 ⟨rfl, hw1⟩; replace hw1 := hw1.symm; subst hw1))
        | (go_at_call 8; go_must (refine (HAl.out w).mono ?_; rintro r w8 ⟨rfl, hb8⟩)))
      all_goals
        go_ret
        exact ⟨rfl, hb8⟩
    · have c2 : 16 < most := by omega
      go_enter Try.func3, Try.ntmps3
      go_wp2_with (first
        | (go_at_call 7; go_must (refine HLt.out.mono ?_; rintro r w2 ⟨hr, hw2⟩; replace hw2 := hw2.symm; subst hw2; rcases hr with hr | hr <;> subst hr))
        | (go_at_call 9; go_must (refine HN.out.mono ?_; rintro r w1 ⟨rfl, hw1⟩; replace hw1 := hw1.symm; subst hw1))
        | (go_at_call 8; go_must (refine (HAl.out w).mono ?_; rintro r w8 ⟨rfl, hb8⟩)))
      all_goals
        go_ret
        exact ⟨rfl, hb8⟩
end Go.Proofs.Ytigfklcclfpcjaa
