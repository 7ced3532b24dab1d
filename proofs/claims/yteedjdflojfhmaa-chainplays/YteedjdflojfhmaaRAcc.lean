/-
  The reference's log: Accept.
-/
import Derived.Test.YteedjdflojfhmaaRCheck
namespace Go.Proofs.Yteedjdflojfhmaa
set_option linter.unusedVariables false
set_option linter.unusedSimpArgs false
set_option synthInstance.maxSize 20000
set_option maxHeartbeats 2000000
set_option maxRecDepth 20000
open Go.RowKit Go.Maps

theorem raccept_bad {w0 w : World} {o : Nat → Nat} {j lx r : Nat} {T : St} {W p : Int} {es : List Ent} {sum : Int} {e : Ent} {x : Value} (h : RAsk w0 w o j lx r T W p es sum e x) (hk : checkM T W p ⟨es, sum⟩ e ≠ 0) :
    Calls Try.prog 26 #[ptr lx, ptr r, ev e x] w fun q w' => q = .returned (.int .i64 (checkM T W p ⟨es, sum⟩ e)) ∧ ∃ o', ROrc w0 w' o' r T ∧ Mv [8] w o w' o' := by
  have CK := fun w' (hb : Below w.heap.size w w') => rcheck_any (w := w') (o := newTo o w 0) ⟨h.log.below hb, h.orc.below hb, h.fine, h.ok, h.rd.below hb, h.head, h.last, h.j8, h.few⟩
  obtain ⟨a, cap, hxx⟩ := h.rd.len
  subst hxx
  clear h
  generalize checkM T W p ⟨es, sum⟩ e = K at *
  have hk1 : (K == 0) = false := by simpa using hk
  obtain ⟨ew, ei, ep, et, eu, en, eb, eg⟩ := e
  unfold ev at *
  dsimp only at *
  have HCK : Hid (∀ w', Below w.heap.size w w' → Calls Try.prog 24 #[ptr lx, ptr r, .agg #[.int .i64 ew, .int .i64 ei, .int .u64 ep, .int .i64 et, .int .i64 eu, .int .i64 en, .slice a eb.length cap, .int .u64 eg]] w' fun q w'' => q = .returned (.int .i64 K) ∧ ∃ o', ROrc w0 w'' o' r T ∧ Mv [8] w' (newTo o w 0) w'' o') := CK
  clear CK hk
  go_enter Try.func26, Try.ntmps26
  go_wp2_with (go_at_call 24; go_must (refine (HCK.out _ (balloc (Below.refl _ _) _)).mono ?_; rintro q w2 ⟨rfl, o2, h2, m2⟩))
  go_ret
  exact ⟨rfl, o2, h2, (Mv.of_below 0 (balloc (Below.refl _ _) _)).trans m2⟩

theorem raccept_ok {w0 w : World} {o : Nat → Nat} {j lx r : Nat} {T : St} {W p : Int} {es : List Ent} {sum : Int} {e : Ent} {x : Value} (h : RAsk w0 w o j lx r T W p es sum e x) (hx : Kp0 w o x e.b) (hj0 : j ≠ 0) (hk : checkM T W p ⟨es, sum⟩ e = 0) :
    Calls Try.prog 26 #[ptr lx, ptr r, ev e x] w fun q w' => q = .returned (.int .i64 0) ∧ ∃ o', ROrc w0 w' o' r T ∧ RLogIs w' o' j lx W p (es ++ [e]) ∧ Mv [8, j] w o w' o' := by
  have hz := (check_zero _ _ _ _ _).1 hk
  have hfew : es.length < 200 := by
    have h1 := hz.1.2.1
    have h2 := hz.2.2.2.1
    dsimp only at h2
    omega
  have CK := fun w' (hb : Below w.heap.size w w') => rcheck_any (w := w') (o := newTo o w 0) ⟨h.log.below hb, h.orc.below hb, h.fine, h.ok, h.rd.below hb, h.head, h.last, h.j8, h.few⟩
  rw [hk] at CK
  have AE := fun (wd w5 : World) (o' : Nat → Nat) (v v' : Value) (ps : List (Ent × Value)) (hA : RLogAt wd o' j lx W p es v ps) (hy : Kp0 wd o' x e.b) ob h5 h6 h7 => rlog_add (w := wd) (w5 := w5) (v' := v') hA hj0 h.ok hy hfew ob h5 h6 h7
  have R1 := fun (w' : World) => rowE_one w' e x
  have O1 : ∀ u ∈ flatE [(e, x)], u.oneCell' = true := (ents_one h.ok hx).one
  have HJ8 : Hid (j ≠ 8) := h.j8
  have HO0 : Hid (ROrc w0 w o r T) := h.orc
  have HLg : Hid (RLogIs w o j lx W p es) := h.log
  obtain ⟨a, cap, hxx⟩ := h.rd.len
  subst hxx
  clear h hk hz
  obtain ⟨ew, ei, ep, et, eu, en, eb, eg⟩ := e
  unfold ev at *
  dsimp only at *
  have HCK : Hid (∀ w', Below w.heap.size w w' → Calls Try.prog 24 #[ptr lx, ptr r, .agg #[.int .i64 ew, .int .i64 ei, .int .u64 ep, .int .i64 et, .int .i64 eu, .int .i64 en, .slice a eb.length cap, .int .u64 eg]] w' fun q w'' => q = .returned (.int .i64 0) ∧ ∃ o', ROrc w0 w'' o' r T ∧ Mv [8] w' (newTo o w 0) w'' o') := CK
  have HR1 : Hid (∀ (w' : World), RowE (w'.alloc (.cells #[.int .i64 ew, .int .i64 ei, .int .u64 ep, .int .i64 et, .int .i64 eu, .int .i64 en, .slice a eb.length cap, .int .u64 eg] 47)) (.slice (some ⟨w'.heap.size, 0, none⟩) 1 1) [(⟨ew, ei, ep, et, eu, en, eb, eg⟩, .slice a eb.length cap)]) := R1
  have HO1 : Hid (∀ u ∈ flatE [((⟨ew, ei, ep, et, eu, en, eb, eg⟩ : Ent), (.slice a eb.length cap : Value))], u.oneCell' = true) := O1
  have HAE : Hid (∀ (wd w5 : World) (o' : Nat → Nat) (v v' : Value) (ps : List (Ent × Value)), RLogAt wd o' j lx W p es v ps → Kp0 wd o' (.slice a eb.length cap) eb → ∀ ob : Obj, (wd.alloc ob).grownBy w5 v.ownBlock → OwnC w5 v' (ps ++ [((⟨ew, ei, ep, et, eu, en, eb, eg⟩ : Ent), (.slice a eb.length cap : Value))]).length (flatE (ps ++ [((⟨ew, ei, ep, et, eu, en, eb, eg⟩ : Ent), (.slice a eb.length cap : Value))])) → (∀ k, v'.ownBlock = some k → v.ownBlock = some k ∨ (wd.alloc ob).heap.size ≤ k) →
      ∃ o'', RLogIs (w5.setCell ⟨lx, 2, none⟩ v') o'' j lx W p (es ++ [⟨ew, ei, ep, et, eu, en, eb, eg⟩]) ∧ Mv [j] wd o' (w5.setCell ⟨lx, 2, none⟩ v') o'') := AE
  have HKX : Hid (Kp0 w o (.slice a eb.length cap) eb) := hx
  have HFew : Hid (es.length < 200) := hfew
  obtain ⟨w1, hw1⟩ : ∃ w1, w1 = w.alloc (.cells #[.int .i64 ew, .int .i64 ei, .int .u64 ep, .int .i64 et, .int .i64 eu, .int .i64 en, .slice a eb.length cap, .int .u64 eg] 47) := ⟨_, rfl⟩
  have HB1 : Hid (Below w.heap.size w w1) := by show Below _ _ _; rw [hw1]; exact balloc (Below.refl _ _) _
  have HX1 : Hid (Blk w1 w.heap.size 47 [.int .i64 ew, .int .i64 ei, .int .u64 ep, .int .i64 et, .int .i64 eu, .int .i64 en, .slice a eb.length cap, .int .u64 eg]) := by show Blk _ _ _ _; rw [hw1]; exact blk_new w [.int .i64 ew, .int .i64 ei, .int .u64 ep, .int .i64 et, .int .i64 eu, .int .i64 en, .slice a eb.length cap, .int .u64 eg] 47
  clear CK AE R1 O1 hx hfew
  go_enter Try.func26, Try.ntmps26
  go_upto_region 1 with fail
  rw [← hw1]
  obtain ⟨n, hn⟩ : ∃ n, n = w.heap.size := ⟨_, rfl⟩
  rw [← hn] at HX1 ⊢
  have HNN : Hid (n = w.heap.size) := hn
  clear hw1 hn
  have c0 := HX1.out.cell 0 _ rfl; have c1 := HX1.out.cell 1 _ rfl; have c2 := HX1.out.cell 2 _ rfl; have c3 := HX1.out.cell 3 _ rfl; have c4 := HX1.out.cell 4 _ rfl; have c5 := HX1.out.cell 5 _ rfl; have c6 := HX1.out.cell 6 _ rfl; have c7 := HX1.out.cell 7 _ rfl
  go_upto_region 3 with (go_at_call 24; go_must (refine (HCK.out w1 HB1.out).mono ?_; rintro q w2 ⟨rfl, o2, hO2, hM2⟩; have HO2 : Hid (ROrc w0 w2 o2 r T) := hO2; have HM2 : Hid (Mv [8] w1 (newTo o w 0) w2 o2) := hM2; clear hO2 hM2))
  clear c0 c1 c2 c3 c4 c5 c6 c7
  have HMw : Hid (Mv [8] w o w2 o2) := (show Mv _ _ _ _ _ from (Mv.of_below 0 HB1.out).trans HM2.out)
  have HXd : Hid (Blk w2.drew n 47 [.int .i64 ew, .int .i64 ei, .int .u64 ep, .int .i64 et, .int .i64 eu, .int .i64 en, .slice a eb.length cap, .int .u64 eg]) := (show Blk w2 _ _ _ from HX1.out.block (HM2.out.block n HX1.out.lt (by rw [newTo_new (by have := HNN.out; omega)]; simp)))
  have HNo : Hid (o2 n = 0) := (show o2 n = 0 from by rw [HM2.out.ext n HX1.out.lt]; exact newTo_new (by have := HNN.out; omega))
  have HOd : Hid (ROrc w0 w2.drew o2 r T) := HO2.out.mv (mv_drewn (I := []) w2 _) (by simp) (by simp)
  have HMd : Hid (Mv [8] w o w2.drew o2) := mv_drew HMw.out
  have HKd : Hid (Kp0 w2.drew o2 (.slice a eb.length cap) eb) := HKX.out.mv HMd.out (by simp)
  obtain ⟨v, ps, hA⟩ := HLg.out.mv HMd.out (by simp) (by have := HJ8.out; simp; omega)
  have HAd : Hid (RLogAt w2.drew o2 j lx W p es v ps) := hA
  obtain ⟨av, cv', hvv, hcv, _⟩ := hA.row.slice
  subst hvv
  clear hA
  have HLe : Hid (ps.length < 200) := (show ps.length < 200 from by have := HAd.out.len; have := HFew.out; omega)
  have k0 := fun z : WIn (fun w' => Blk w' n 47 [.int .i64 ew, .int .i64 ei, .int .u64 ep, .int .i64 et, .int .i64 eu, .int .i64 en, .slice a eb.length cap, .int .u64 eg]) => z.ok.cell 0 _ rfl
  have k1 := fun z : WIn (fun w' => Blk w' n 47 [.int .i64 ew, .int .i64 ei, .int .u64 ep, .int .i64 et, .int .i64 eu, .int .i64 en, .slice a eb.length cap, .int .u64 eg]) => z.ok.cell 1 _ rfl
  have k2 := fun z : WIn (fun w' => Blk w' n 47 [.int .i64 ew, .int .i64 ei, .int .u64 ep, .int .i64 et, .int .i64 eu, .int .i64 en, .slice a eb.length cap, .int .u64 eg]) => z.ok.cell 2 _ rfl
  have k3 := fun z : WIn (fun w' => Blk w' n 47 [.int .i64 ew, .int .i64 ei, .int .u64 ep, .int .i64 et, .int .i64 eu, .int .i64 en, .slice a eb.length cap, .int .u64 eg]) => z.ok.cell 3 _ rfl
  have k4 := fun z : WIn (fun w' => Blk w' n 47 [.int .i64 ew, .int .i64 ei, .int .u64 ep, .int .i64 et, .int .i64 eu, .int .i64 en, .slice a eb.length cap, .int .u64 eg]) => z.ok.cell 4 _ rfl
  have k5 := fun z : WIn (fun w' => Blk w' n 47 [.int .i64 ew, .int .i64 ei, .int .u64 ep, .int .i64 et, .int .i64 eu, .int .i64 en, .slice a eb.length cap, .int .u64 eg]) => z.ok.cell 5 _ rfl
  have k6 := fun z : WIn (fun w' => Blk w' n 47 [.int .i64 ew, .int .i64 ei, .int .u64 ep, .int .i64 et, .int .i64 eu, .int .i64 en, .slice a eb.length cap, .int .u64 eg]) => z.ok.cell 6 _ rfl
  have k7 := fun z : WIn (fun w' => Blk w' n 47 [.int .i64 ew, .int .i64 ei, .int .u64 ep, .int .i64 et, .int .i64 eu, .int .i64 en, .slice a eb.length cap, .int .u64 eg]) => z.ok.cell 7 _ rfl
  have ne : Nonempty (WIn (fun w' => Blk w' n 47 [.int .i64 ew, .int .i64 ei, .int .u64 ep, .int .i64 et, .int .i64 eu, .int .i64 en, .slice a eb.length cap, .int .u64 eg])) := ⟨⟨w2.drew, HXd.out⟩⟩
  refine wp_region_tree (C := fun w' => ∃ z : WIn (fun w' => Blk w' n 47 [.int .i64 ew, .int .i64 ei, .int .u64 ep, .int .i64 et, .int .i64 eu, .int .i64 en, .slice a eb.length cap, .int .u64 eg]), w' = z.w)
    (.still 0 (.still 1 (.still 2 (.still 3 (.still 5 (.two 4 (.one 6 (.one 7 (.still 8 (.still 9 (.one 10 .done))))) 6 (.one 4 (.one 7 (.still 8 (.still 9 (.one 10 .done)))))))))))
    (by kernel_rfl) (by kernel_rfl) ⟨⟨w2.drew, HXd.out⟩, rfl⟩ ?_
  clear HX1 HM2 HO2 HMw HB1
  generalize w2.drew = wd at *
  have q2 := HAd.out.blk.cell 2 _ rfl
  have r2 := (HAd.out.blk.alloc (.cells #[.int .i64 ew, .int .i64 ei, .int .u64 ep, .int .i64 et, .int .i64 eu, .int .i64 en, .slice a eb.length cap, .int .u64 eg] 47)).cell 2 _ rfl
  have HRow : Hid (OwnC (wd.alloc (.cells #[.int .i64 ew, .int .i64 ei, .int .u64 ep, .int .i64 et, .int .i64 eu, .int .i64 en, .slice a eb.length cap, .int .u64 eg] 47)) (.slice av ps.length cv') ps.length (flatE ps)) := (HAd.out.mv (Mv.of_below (I := []) 0 (balloc (Below.refl _ _) _)) (by simp) (by simp)).row
  have HNl : Hid (n ≠ lx) := fun e => by have h1 := HNo.out; rw [e, HAd.out.own] at h1; exact hj0 h1
  have HNr : Hid (∀ k, (Value.slice av ps.length cv').ownBlock = some k → n = k → False) := fun k hk e => by have h1 := HNo.out; rw [e, (HAd.out.rowOwn k hk).1] at h1; exact hj0 h1
  iterate 5 (refine tree_still rfl rfl ?_; go_big_quiet_step (fail); refine wpQuiet_nil ?_)
  refine tree_two rfl rfl rfl rfl ?wayA ?wayB
  case' wayA =>
    go_simp
    refine ⟨⟨⟨wd, HXd.out⟩, rfl⟩, ?_⟩
    refine tree_one rfl rfl ?_
    go_simp
    refine ⟨⟨⟨_, HXd.out.alloc _⟩, rfl⟩, ?_⟩
  case' wayB =>
    go_simp
    refine ⟨⟨⟨_, HXd.out.alloc _⟩, rfl⟩, ?_⟩
    refine tree_one rfl rfl ?_
    go_simp
    refine ⟨⟨⟨_, HXd.out.alloc _⟩, rfl⟩, ?_⟩
  all_goals
    refine tree_one rfl rfl ?_
    refine wp_of_list rfl ?_
    refine wpList_append_c rfl (.tmp 18) (.tmp 20) rfl (.slice av ps.length cv') ps rfl HRow.out ⟨wd.heap.size, 0, none⟩ 1 ((⟨ew, ei, ep, et, eu, en, eb, eg⟩ : Ent), .slice a eb.length cap) rfl (HR1.out wd) HO1.out (by have := HLe.out; omega) ?_
    intro v' w5 hrow hg hwh
    have HE := HAE.out wd w5 o2 _ v' ps HAd.out HKd.out _ hg hrow hwh
    obtain ⟨av', cv2, hv', _⟩ := hrow.slice
    subst hv'
    have HE' : Hid (∃ o'', RLogIs (w5.setCell ⟨lx, 2, none⟩ (.slice av' (ps ++ [((⟨ew, ei, ep, et, eu, en, eb, eg⟩ : Ent), (.slice a eb.length cap : Value))]).length cv2)) o'' j lx W p (es ++ [⟨ew, ei, ep, et, eu, en, eb, eg⟩]) ∧ Mv [j] wd o2 (w5.setCell ⟨lx, 2, none⟩ (.slice av' (ps ++ [((⟨ew, ei, ep, et, eu, en, eb, eg⟩ : Ent), (.slice a eb.length cap : Value))]).length cv2)) o'') := HE
    clear HE
    have HX5 : Hid (Blk w5 n 47 [.int .i64 ew, .int .i64 ei, .int .u64 ep, .int .i64 et, .int .i64 eu, .int .i64 en, .slice a eb.length cap, .int .u64 eg]) := (show Blk _ _ _ _ from (HXd.out.alloc _).past' hg (fun e => HNr.out n e rfl))
    have B5 := (HAd.out.blk.alloc (.cells #[.int .i64 ew, .int .i64 ei, .int .u64 ep, .int .i64 et, .int .i64 eu, .int .i64 en, .slice a eb.length cap, .int .u64 eg] 47)).past' hg (fun e => (HAd.out.rowOwn lx e).2 rfl)
    have b2 := B5.cell 2 _ rfl
    have g2 := B5.frozen 2
    clear B5 hrow hg hwh
    generalize (ps ++ [((⟨ew, ei, ep, et, eu, en, eb, eg⟩ : Ent), (.slice a eb.length cap : Value))]).length = N5 at *
    refine ⟨rfl, ⟨⟨w5, HX5.out⟩, rfl⟩, ?_⟩
    go_simp
    iterate 2 (refine tree_still rfl rfl ?_; go_big_quiet_step (fail); refine wpQuiet_nil ?_)
    refine tree_one rfl rfl ?_
    go_simp
    refine ⟨⟨⟨_, HX5.out.past (grown_setCell _ _ _ _) HNl.out⟩, rfl⟩, ?_⟩
    refine tree_done ?_
    clear k0 k1 k2 k3 k4 k5 k6 k7 ne
    go_wp2
    go_ret
    obtain ⟨o5, h1, h2⟩ := HE'.out
    exact ⟨rfl, o5, HOd.out.mv h2 (by simp; omega) (by have := HJ8.out; simp; omega), h1, (HMd.out.widen (by simp)).trans (h2.widen (by simp))⟩
end Go.Proofs.Yteedjdflojfhmaa
