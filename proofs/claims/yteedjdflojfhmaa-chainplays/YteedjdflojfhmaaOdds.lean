/-
  Odds: two entries of one place.
-/
import Derived.Test.YteedjdflojfhmaaAllE
namespace Go.Proofs.Yteedjdflojfhmaa
set_option linter.unusedVariables false
set_option linter.unusedSimpArgs false
set_option synthInstance.maxSize 20000
set_option maxHeartbeats 2000000
set_option maxRecDepth 20000
open Go.RowKit Go.Maps

theorem results_cct {fn : Func} {p q u : Tmp} {ty ty' : TypeId} (h : fn.results = #[.cell p ty, .cell q ty', .tmp u]) (tmps : Array Value) (P : Program) (w : World) :
    (results fn tmps).run P w = ((asAddr (tmps.getD p undef)).run P w).andThen fun a w₁ => ((loadVar ty a).run P w₁).andThen fun v w₂ => ((asAddr (tmps.getD q undef)).run P w₂).andThen fun a' w₃ => ((loadVar ty' a').run P w₃).andThen fun v' w₄ => .ok (.tuple #[v, v', tmps.getD u undef]) w₄ := by
  simp only [results, h]
  simp [Sem.run_bind, Result.andThen]

theorem check_fork {S : St} {W p : Int} {L : Lg} {e : Ent} (h : checkM S W p L e = 9) : rightE e ∧ e.w = W ∧ S.verify p (textL e) e.g = true ∧ ∃ f, L.es[e.i.toNat]? = some f ∧ e ≠ f := by
  unfold checkM askK at h
  by_cases h1 : rightB e = true
  · by_cases h2 : (e.w == W) = true
    · by_cases h3 : (rightB e && S.verify p (textL e) e.g) = true
      · simp only [firstK, unl, if_pos h1, if_pos h2, if_pos h3, if_true] at h
        refine ⟨(rightB_iff e).1 h1, by simpa using h2, by rw [h1, Bool.true_and] at h3; exact h3, ?_⟩
        unfold metK at h
        cases hf : L.es[e.i.toNat]? with
        | none =>
          rw [hf] at h
          dsimp only at h
          rw [if_pos rfl] at h
          split at h <;> (try split at h) <;> (try split at h) <;> (try split at h) <;> (try split at h) <;> (try split at h) <;> omega
        | some f =>
          rw [hf] at h
          refine ⟨f, rfl, fun e1 => ?_⟩
          subst e1
          dsimp only at h
          have hs := (sameB_iff e e).2 rfl
          simp [hs] at h
      · simp only [firstK, unl, if_pos h1, if_pos h2, if_neg h3, if_true] at h
        simp at h
    · simp only [firstK, unl, if_pos h1, if_neg h2, if_true] at h
      simp at h
  · simp only [firstK, unl, if_neg h1] at h
    simp at h

theorem odds_no {w : World} (ptrv : Value) (K : Int) (e : Ent) (x : Value) (hp : ∃ q, ptrv = .pointer q) (hx : Rd w x e.b) (hK : K ≠ 9) (CK : ∀ w', Below w.heap.size w w' → Calls Try.prog 23 #[ptrv, ev e x] w' fun r w'' => r = .returned (.int .i64 K) ∧ Below w'.heap.size w' w'') :
    Calls Try.prog 30 #[ptrv, ev e x] w fun r w' => r = .returned (.tuple #[ev zeroE (.slice none 0 0), ev zeroE (.slice none 0 0), .bool false]) ∧ Below w.heap.size w w' := by
  have hk1 : (K != 9) = true := by simpa using hK
  obtain ⟨q, rfl⟩ := hp
  obtain ⟨a, cap, rfl⟩ := hx.len
  obtain ⟨ew, ei, ep, et, eu, en, eb, eg⟩ := e
  unfold zeroE
  unfold ev at *
  dsimp only at *
  have HCK : Hid (∀ w', Below w.heap.size w w' → Calls Try.prog 23 #[.pointer q, .agg #[.int .i64 ew, .int .i64 ei, .int .u64 ep, .int .i64 et, .int .i64 eu, .int .i64 en, .slice a eb.length cap, .int .u64 eg]] w' fun r w'' => r = .returned (.int .i64 K) ∧ Below w'.heap.size w' w'') := CK
  obtain ⟨w1, hw1⟩ : ∃ w1, w1 = ((w.alloc (.cells #[.int .i64 ew, .int .i64 ei, .int .u64 ep, .int .i64 et, .int .i64 eu, .int .i64 en, .slice a eb.length cap, .int .u64 eg] 47)).alloc (.cells #[.int .i64 0, .int .i64 0, .int .u64 0, .int .i64 0, .int .i64 0, .int .i64 0, .slice none 0 0, .int .u64 0] 47)).alloc (.cells #[.int .i64 0, .int .i64 0, .int .u64 0, .int .i64 0, .int .i64 0, .int .i64 0, .slice none 0 0, .int .u64 0] 47) := ⟨_, rfl⟩
  have HB1 : Hid (Below w.heap.size w w1) := by show Below _ _ _; rw [hw1]; exact balloc (balloc (balloc (Below.refl _ _) _) _) _
  have HX1 : Hid (Blk w1 w.heap.size 47 [.int .i64 ew, .int .i64 ei, .int .u64 ep, .int .i64 et, .int .i64 eu, .int .i64 en, .slice a eb.length cap, .int .u64 eg]) := by show Blk _ _ _ _; rw [hw1]; exact ((blk_new w [.int .i64 ew, .int .i64 ei, .int .u64 ep, .int .i64 et, .int .i64 eu, .int .i64 en, .slice a eb.length cap, .int .u64 eg] 47).alloc _).alloc _
  have HY1 : Hid (Blk w1 (w.heap.size + 1) 47 [.int .i64 0, .int .i64 0, .int .u64 0, .int .i64 0, .int .i64 0, .int .i64 0, .slice none 0 0, .int .u64 0]) := by
    show Blk _ _ _ _
    rw [hw1]
    have := (blk_new (w.alloc (.cells #[.int .i64 ew, .int .i64 ei, .int .u64 ep, .int .i64 et, .int .i64 eu, .int .i64 en, .slice a eb.length cap, .int .u64 eg] 47)) [.int .i64 0, .int .i64 0, .int .u64 0, .int .i64 0, .int .i64 0, .int .i64 0, .slice none 0 0, .int .u64 0] 47).alloc (.cells #[.int .i64 0, .int .i64 0, .int .u64 0, .int .i64 0, .int .i64 0, .int .i64 0, .slice none 0 0, .int .u64 0] 47)
    simpa using this
  have HZ1 : Hid (Blk w1 (w.heap.size + 2) 47 [.int .i64 0, .int .i64 0, .int .u64 0, .int .i64 0, .int .i64 0, .int .i64 0, .slice none 0 0, .int .u64 0]) := by
    show Blk _ _ _ _
    rw [hw1]
    have := blk_new ((w.alloc (.cells #[.int .i64 ew, .int .i64 ei, .int .u64 ep, .int .i64 et, .int .i64 eu, .int .i64 en, .slice a eb.length cap, .int .u64 eg] 47)).alloc (.cells #[.int .i64 0, .int .i64 0, .int .u64 0, .int .i64 0, .int .i64 0, .int .i64 0, .slice none 0 0, .int .u64 0] 47)) [.int .i64 0, .int .i64 0, .int .u64 0, .int .i64 0, .int .i64 0, .int .i64 0, .slice none 0 0, .int .u64 0] 47
    simpa using this
  clear CK hx hK
  go_enter Try.func30, Try.ntmps30
  go_upto_region 1 with fail
  rw [← hw1]
  obtain ⟨n, hn⟩ : ∃ n, n = w.heap.size := ⟨_, rfl⟩
  rw [← hn] at HX1 HY1 HZ1 ⊢
  have HNN : Hid (n = w.heap.size) := hn
  clear hw1 hn
  have x0 := HX1.out.cell 0 _ rfl; have x1 := HX1.out.cell 1 _ rfl; have x2 := HX1.out.cell 2 _ rfl; have x3 := HX1.out.cell 3 _ rfl; have x4 := HX1.out.cell 4 _ rfl; have x5 := HX1.out.cell 5 _ rfl; have x6 := HX1.out.cell 6 _ rfl; have x7 := HX1.out.cell 7 _ rfl
  go_wp2_with (go_at_call 23; go_must (refine (HCK.out w1 HB1.out).mono ?_; rintro r w2 ⟨rfl, hb2⟩; have Y := HY1.out.below hb2; have Z := HZ1.out.below hb2; have y0 := Y.cell 0 _ rfl; have y1 := Y.cell 1 _ rfl; have y2 := Y.cell 2 _ rfl; have y3 := Y.cell 3 _ rfl; have y4 := Y.cell 4 _ rfl; have y5 := Y.cell 5 _ rfl; have y6 := Y.cell 6 _ rfl; have y7 := Y.cell 7 _ rfl; have f0 := Y.frozen 0; have f1 := Y.frozen 1; have f2 := Y.frozen 2; have f3 := Y.frozen 3; have f4 := Y.frozen 4; have f5 := Y.frozen 5; have f6 := Y.frozen 6; have f7 := Y.frozen 7; have z0 := Z.cell 0 _ rfl; have z1 := Z.cell 1 _ rfl; have z2 := Z.cell 2 _ rfl; have z3 := Z.cell 3 _ rfl; have z4 := Z.cell 4 _ rfl; have z5 := Z.cell 5 _ rfl; have z6 := Z.cell 6 _ rfl; have z7 := Z.cell 7 _ rfl; have h0 := Z.frozen 0; have h1 := Z.frozen 1; have h2 := Z.frozen 2; have h3 := Z.frozen 3; have h4 := Z.frozen 4; have h5 := Z.frozen 5; have h6 := Z.frozen 6; have h7 := Z.frozen 7))
  have G1 := grown_set8 w2 (n + 1) (.int .i64 0) (.int .i64 0) (.int .u64 0) (.int .i64 0) (.int .i64 0) (.int .i64 0) (.slice none 0 0) (.int .u64 0)
  refine bodyPost_ret (v := .tuple #[.agg #[.int .i64 0, .int .i64 0, .int .u64 0, .int .i64 0, .int .i64 0, .int .i64 0, .slice none 0 0, .int .u64 0], .agg #[.int .i64 0, .int .i64 0, .int .u64 0, .int .i64 0, .int .i64 0, .int .i64 0, .slice none 0 0, .int .u64 0], .bool false]) ?_ rfl ⟨rfl, ?_⟩
  · rw [results_cct rfl]
    go_simp
  · exact bgrown (bgrown (bnext HB1.out hb2) (by have := HNN.out; omega) G1) (by have := HNN.out; omega) (grown_set8 _ _ _ _ _ _ _ _ _ _)

theorem odds_core {w : World} {la b : Nat} {W p sum : Int} {g off nv cv' i : Nat} {e f : Ent} {x y : Value} (hx : Rd w x e.b) (hlx : e.b.length ≤ 1000000) (hy : Rd w y f.b) (hly : f.b.length ≤ 1000000) (hnv : nv ≤ 200) (hcv : nv ≤ cv' ∧ cv' ≤ 9223372036854775807) (hi : e.i = i) (hin : i < nv)
    (hc : ∀ k u, (ec f y)[k]? = some u → w.cell? ⟨g, off + i * 8 + k, none⟩ = some u) (hl : Blk w la 91 [ptr b, .int .i64 W, .int .u64 p, .slice (some ⟨g, off, none⟩) nv cv', .int .u64 sum])
    (CK : ∀ w', Below w.heap.size w w' → Calls Try.prog 23 #[ptr la, ev e x] w' fun r w'' => r = .returned (.int .i64 9) ∧ Below w'.heap.size w' w'') :
    Calls Try.prog 30 #[ptr la, ev e x] w fun r w' => ∃ y1 y2, r = .returned (.tuple #[ev f y1, ev e y2, .bool true]) ∧ Own w.heap.size 5 w' y1 f.b ∧ Own w.heap.size 5 w' y2 e.b ∧ Below w.heap.size w w' := by
  have HX : Hid (Rd w x e.b) := hx
  have HY : Hid (Rd w y f.b) := hy
  have CP := fun w' (h : Rd w' y f.b) => copied_any w' f y h hly
  have CQ := fun w' (h : Rd w' x e.b) => copied_any w' e x h hlx
  obtain ⟨a, cap, rfl⟩ := hx.len
  obtain ⟨a2, cap2, rfl⟩ := hy.len
  obtain ⟨ew, ei, ep, et, eu, en, eb, eg⟩ := e
  obtain ⟨fw, fi, fp, ft, fu, fn, fb, fg⟩ := f
  unfold ec at hc
  unfold ev at *
  dsimp only at *
  subst hi
  have HCK : Hid (∀ w', Below w.heap.size w w' → Calls Try.prog 23 #[ptr la, .agg #[.int .i64 ew, .int .i64 (i : Int), .int .u64 ep, .int .i64 et, .int .i64 eu, .int .i64 en, .slice a eb.length cap, .int .u64 eg]] w' fun r w'' => r = .returned (.int .i64 9) ∧ Below w'.heap.size w' w'') := CK
  have HCP : Hid (∀ w', Rd w' (.slice a2 fb.length cap2) fb → Calls Try.prog 56 #[.agg #[.int .i64 fw, .int .i64 fi, .int .u64 fp, .int .i64 ft, .int .i64 fu, .int .i64 fn, .slice a2 fb.length cap2, .int .u64 fg]] w' fun r w'' => ∃ y, r = .returned (.agg #[.int .i64 fw, .int .i64 fi, .int .u64 fp, .int .i64 ft, .int .i64 fu, .int .i64 fn, y, .int .u64 fg]) ∧ Own w'.heap.size 5 w'' y fb ∧ Below w'.heap.size w' w'') := CP
  have HCQ : Hid (∀ w', Rd w' (.slice a eb.length cap) eb → Calls Try.prog 56 #[.agg #[.int .i64 ew, .int .i64 (i : Int), .int .u64 ep, .int .i64 et, .int .i64 eu, .int .i64 en, .slice a eb.length cap, .int .u64 eg]] w' fun r w'' => ∃ y, r = .returned (.agg #[.int .i64 ew, .int .i64 (i : Int), .int .u64 ep, .int .i64 et, .int .i64 eu, .int .i64 en, y, .int .u64 eg]) ∧ Own w'.heap.size 5 w'' y eb ∧ Below w'.heap.size w' w'') := CQ
  obtain ⟨w1, hw1⟩ : ∃ w1, w1 = ((w.alloc (.cells #[.int .i64 ew, .int .i64 (i : Int), .int .u64 ep, .int .i64 et, .int .i64 eu, .int .i64 en, .slice a eb.length cap, .int .u64 eg] 47)).alloc (.cells #[.int .i64 0, .int .i64 0, .int .u64 0, .int .i64 0, .int .i64 0, .int .i64 0, .slice none 0 0, .int .u64 0] 47)).alloc (.cells #[.int .i64 0, .int .i64 0, .int .u64 0, .int .i64 0, .int .i64 0, .int .i64 0, .slice none 0 0, .int .u64 0] 47) := ⟨_, rfl⟩
  have HB1 : Hid (Below w.heap.size w w1) := by show Below _ _ _; rw [hw1]; exact balloc (balloc (balloc (Below.refl _ _) _) _) _
  have HX1 : Hid (Blk w1 w.heap.size 47 [.int .i64 ew, .int .i64 (i : Int), .int .u64 ep, .int .i64 et, .int .i64 eu, .int .i64 en, .slice a eb.length cap, .int .u64 eg]) := by show Blk _ _ _ _; rw [hw1]; exact ((blk_new w [.int .i64 ew, .int .i64 (i : Int), .int .u64 ep, .int .i64 et, .int .i64 eu, .int .i64 en, .slice a eb.length cap, .int .u64 eg] 47).alloc _).alloc _
  have HY1 : Hid (Blk w1 (w.heap.size + 1) 47 [.int .i64 0, .int .i64 0, .int .u64 0, .int .i64 0, .int .i64 0, .int .i64 0, .slice none 0 0, .int .u64 0]) := by
    show Blk _ _ _ _
    rw [hw1]
    have := (blk_new (w.alloc (.cells #[.int .i64 ew, .int .i64 (i : Int), .int .u64 ep, .int .i64 et, .int .i64 eu, .int .i64 en, .slice a eb.length cap, .int .u64 eg] 47)) [.int .i64 0, .int .i64 0, .int .u64 0, .int .i64 0, .int .i64 0, .int .i64 0, .slice none 0 0, .int .u64 0] 47).alloc (.cells #[.int .i64 0, .int .i64 0, .int .u64 0, .int .i64 0, .int .i64 0, .int .i64 0, .slice none 0 0, .int .u64 0] 47)
    simpa using this
  have HZ1 : Hid (Blk w1 (w.heap.size + 2) 47 [.int .i64 0, .int .i64 0, .int .u64 0, .int .i64 0, .int .i64 0, .int .i64 0, .slice none 0 0, .int .u64 0]) := by
    show Blk _ _ _ _
    rw [hw1]
    have := blk_new ((w.alloc (.cells #[.int .i64 ew, .int .i64 (i : Int), .int .u64 ep, .int .i64 et, .int .i64 eu, .int .i64 en, .slice a eb.length cap, .int .u64 eg] 47)).alloc (.cells #[.int .i64 0, .int .i64 0, .int .u64 0, .int .i64 0, .int .i64 0, .int .i64 0, .slice none 0 0, .int .u64 0] 47)) [.int .i64 0, .int .i64 0, .int .u64 0, .int .i64 0, .int .i64 0, .int .i64 0, .slice none 0 0, .int .u64 0] 47
    simpa using this
  have HCC : Hid (∀ w', Below w.heap.size w w' → ∀ k u, [.int .i64 fw, .int .i64 fi, .int .u64 fp, .int .i64 ft, .int .i64 fu, .int .i64 fn, .slice a2 fb.length cap2, .int .u64 fg][k]? = some u → w'.cell? ⟨g, off + i * 8 + k, none⟩ = some u) := fun w' hb' k u hu => by
    have h1 := hc k u hu
    rw [World.cell?_of_block (hb'.block g (World.block_lt_of_cell? w _ h1))]
    exact h1
  have HGl : Hid (g < w.heap.size) := (show g < w.heap.size from World.block_lt_of_cell? w _ (hc 0 _ rfl))
  have HL0 : Hid (Blk w la 91 [ptr b, .int .i64 W, .int .u64 p, .slice (some ⟨g, off, none⟩) nv cv', .int .u64 sum]) := hl
  clear CK CP CQ hx hy hc hl
  go_enter Try.func30, Try.ntmps30
  go_upto_region 1 with fail
  rw [← hw1]
  obtain ⟨n, hn⟩ : ∃ n, n = w.heap.size := ⟨_, rfl⟩
  rw [← hn] at HX1 HY1 HZ1 ⊢
  have HNN : Hid (n = w.heap.size) := hn
  clear hw1 hn
  have x0 := HX1.out.cell 0 _ rfl; have x1 := HX1.out.cell 1 _ rfl; have x2 := HX1.out.cell 2 _ rfl; have x3 := HX1.out.cell 3 _ rfl; have x4 := HX1.out.cell 4 _ rfl; have x5 := HX1.out.cell 5 _ rfl; have x6 := HX1.out.cell 6 _ rfl; have x7 := HX1.out.cell 7 _ rfl
  go_upto_region 3 with (go_at_call 23; go_must (refine (HCK.out w1 HB1.out).mono ?_; rintro r w2 ⟨rfl, hb2⟩))
  have HB2 : Hid (Below w.heap.size w w2) := (show Below _ _ _ from bnext HB1.out hb2)
  have HX2 : Hid (Blk w2 n 47 [.int .i64 ew, .int .i64 (i : Int), .int .u64 ep, .int .i64 et, .int .i64 eu, .int .i64 en, .slice a eb.length cap, .int .u64 eg]) := (show Blk _ _ _ _ from HX1.out.below hb2)
  have HY2 : Hid (Blk w2 (n + 1) 47 [.int .i64 0, .int .i64 0, .int .u64 0, .int .i64 0, .int .i64 0, .int .i64 0, .slice none 0 0, .int .u64 0]) := (show Blk _ _ _ _ from HY1.out.below hb2)
  have HZ2 : Hid (Blk w2 (n + 2) 47 [.int .i64 0, .int .i64 0, .int .u64 0, .int .i64 0, .int .i64 0, .int .i64 0, .slice none 0 0, .int .u64 0]) := (show Blk _ _ _ _ from HZ1.out.below hb2)
  have HL2 : Hid (Blk w2 la 91 [ptr b, .int .i64 W, .int .u64 p, .slice (some ⟨g, off, none⟩) nv cv', .int .u64 sum]) := (show Blk _ _ _ _ from HL0.out.below HB2.out)
  have HD2 : Hid (∀ w', Below w2.heap.size w2 w' → Blk w' n 47 [.int .i64 ew, .int .i64 (i : Int), .int .u64 ep, .int .i64 et, .int .i64 eu, .int .i64 en, .slice a eb.length cap, .int .u64 eg] ∧ Blk w' la 91 [ptr b, .int .i64 W, .int .u64 p, .slice (some ⟨g, off, none⟩) nv cv', .int .u64 sum] ∧ ∀ k u, [.int .i64 fw, .int .i64 fi, .int .u64 fp, .int .i64 ft, .int .i64 fu, .int .i64 fn, .slice a2 fb.length cap2, .int .u64 fg][k]? = some u → w'.cell? ⟨g, off + i * 8 + k, none⟩ = some u) := fun w' h => ⟨HX2.out.below h, HL2.out.below h, HCC.out w' (bnext HB2.out h)⟩
  clear hb2 HX1 HY1 HZ1 HCK x0 x1 x2 x3 x4 x5 x6 x7
  have k0 := fun z : WIn (fun w' => Blk w' n 47 [.int .i64 ew, .int .i64 (i : Int), .int .u64 ep, .int .i64 et, .int .i64 eu, .int .i64 en, .slice a eb.length cap, .int .u64 eg] ∧ Blk w' la 91 [ptr b, .int .i64 W, .int .u64 p, .slice (some ⟨g, off, none⟩) nv cv', .int .u64 sum] ∧ ∀ k u, [.int .i64 fw, .int .i64 fi, .int .u64 fp, .int .i64 ft, .int .i64 fu, .int .i64 fn, .slice a2 fb.length cap2, .int .u64 fg][k]? = some u → w'.cell? ⟨g, off + i * 8 + k, none⟩ = some u) => z.ok.1.cell 0 _ rfl
  have k1 := fun z : WIn (fun w' => Blk w' n 47 [.int .i64 ew, .int .i64 (i : Int), .int .u64 ep, .int .i64 et, .int .i64 eu, .int .i64 en, .slice a eb.length cap, .int .u64 eg] ∧ Blk w' la 91 [ptr b, .int .i64 W, .int .u64 p, .slice (some ⟨g, off, none⟩) nv cv', .int .u64 sum] ∧ ∀ k u, [.int .i64 fw, .int .i64 fi, .int .u64 fp, .int .i64 ft, .int .i64 fu, .int .i64 fn, .slice a2 fb.length cap2, .int .u64 fg][k]? = some u → w'.cell? ⟨g, off + i * 8 + k, none⟩ = some u) => z.ok.1.cell 1 _ rfl
  have k2 := fun z : WIn (fun w' => Blk w' n 47 [.int .i64 ew, .int .i64 (i : Int), .int .u64 ep, .int .i64 et, .int .i64 eu, .int .i64 en, .slice a eb.length cap, .int .u64 eg] ∧ Blk w' la 91 [ptr b, .int .i64 W, .int .u64 p, .slice (some ⟨g, off, none⟩) nv cv', .int .u64 sum] ∧ ∀ k u, [.int .i64 fw, .int .i64 fi, .int .u64 fp, .int .i64 ft, .int .i64 fu, .int .i64 fn, .slice a2 fb.length cap2, .int .u64 fg][k]? = some u → w'.cell? ⟨g, off + i * 8 + k, none⟩ = some u) => z.ok.1.cell 2 _ rfl
  have k3 := fun z : WIn (fun w' => Blk w' n 47 [.int .i64 ew, .int .i64 (i : Int), .int .u64 ep, .int .i64 et, .int .i64 eu, .int .i64 en, .slice a eb.length cap, .int .u64 eg] ∧ Blk w' la 91 [ptr b, .int .i64 W, .int .u64 p, .slice (some ⟨g, off, none⟩) nv cv', .int .u64 sum] ∧ ∀ k u, [.int .i64 fw, .int .i64 fi, .int .u64 fp, .int .i64 ft, .int .i64 fu, .int .i64 fn, .slice a2 fb.length cap2, .int .u64 fg][k]? = some u → w'.cell? ⟨g, off + i * 8 + k, none⟩ = some u) => z.ok.1.cell 3 _ rfl
  have k4 := fun z : WIn (fun w' => Blk w' n 47 [.int .i64 ew, .int .i64 (i : Int), .int .u64 ep, .int .i64 et, .int .i64 eu, .int .i64 en, .slice a eb.length cap, .int .u64 eg] ∧ Blk w' la 91 [ptr b, .int .i64 W, .int .u64 p, .slice (some ⟨g, off, none⟩) nv cv', .int .u64 sum] ∧ ∀ k u, [.int .i64 fw, .int .i64 fi, .int .u64 fp, .int .i64 ft, .int .i64 fu, .int .i64 fn, .slice a2 fb.length cap2, .int .u64 fg][k]? = some u → w'.cell? ⟨g, off + i * 8 + k, none⟩ = some u) => z.ok.1.cell 4 _ rfl
  have k5 := fun z : WIn (fun w' => Blk w' n 47 [.int .i64 ew, .int .i64 (i : Int), .int .u64 ep, .int .i64 et, .int .i64 eu, .int .i64 en, .slice a eb.length cap, .int .u64 eg] ∧ Blk w' la 91 [ptr b, .int .i64 W, .int .u64 p, .slice (some ⟨g, off, none⟩) nv cv', .int .u64 sum] ∧ ∀ k u, [.int .i64 fw, .int .i64 fi, .int .u64 fp, .int .i64 ft, .int .i64 fu, .int .i64 fn, .slice a2 fb.length cap2, .int .u64 fg][k]? = some u → w'.cell? ⟨g, off + i * 8 + k, none⟩ = some u) => z.ok.1.cell 5 _ rfl
  have k6 := fun z : WIn (fun w' => Blk w' n 47 [.int .i64 ew, .int .i64 (i : Int), .int .u64 ep, .int .i64 et, .int .i64 eu, .int .i64 en, .slice a eb.length cap, .int .u64 eg] ∧ Blk w' la 91 [ptr b, .int .i64 W, .int .u64 p, .slice (some ⟨g, off, none⟩) nv cv', .int .u64 sum] ∧ ∀ k u, [.int .i64 fw, .int .i64 fi, .int .u64 fp, .int .i64 ft, .int .i64 fu, .int .i64 fn, .slice a2 fb.length cap2, .int .u64 fg][k]? = some u → w'.cell? ⟨g, off + i * 8 + k, none⟩ = some u) => z.ok.1.cell 6 _ rfl
  have k7 := fun z : WIn (fun w' => Blk w' n 47 [.int .i64 ew, .int .i64 (i : Int), .int .u64 ep, .int .i64 et, .int .i64 eu, .int .i64 en, .slice a eb.length cap, .int .u64 eg] ∧ Blk w' la 91 [ptr b, .int .i64 W, .int .u64 p, .slice (some ⟨g, off, none⟩) nv cv', .int .u64 sum] ∧ ∀ k u, [.int .i64 fw, .int .i64 fi, .int .u64 fp, .int .i64 ft, .int .i64 fu, .int .i64 fn, .slice a2 fb.length cap2, .int .u64 fg][k]? = some u → w'.cell? ⟨g, off + i * 8 + k, none⟩ = some u) => z.ok.1.cell 7 _ rfl
  have l3 := fun z : WIn (fun w' => Blk w' n 47 [.int .i64 ew, .int .i64 (i : Int), .int .u64 ep, .int .i64 et, .int .i64 eu, .int .i64 en, .slice a eb.length cap, .int .u64 eg] ∧ Blk w' la 91 [ptr b, .int .i64 W, .int .u64 p, .slice (some ⟨g, off, none⟩) nv cv', .int .u64 sum] ∧ ∀ k u, [.int .i64 fw, .int .i64 fi, .int .u64 fp, .int .i64 ft, .int .i64 fu, .int .i64 fn, .slice a2 fb.length cap2, .int .u64 fg][k]? = some u → w'.cell? ⟨g, off + i * 8 + k, none⟩ = some u) => z.ok.2.1.cell 3 _ rfl
  have m0 := fun z : WIn (fun w' => Blk w' n 47 [.int .i64 ew, .int .i64 (i : Int), .int .u64 ep, .int .i64 et, .int .i64 eu, .int .i64 en, .slice a eb.length cap, .int .u64 eg] ∧ Blk w' la 91 [ptr b, .int .i64 W, .int .u64 p, .slice (some ⟨g, off, none⟩) nv cv', .int .u64 sum] ∧ ∀ k u, [.int .i64 fw, .int .i64 fi, .int .u64 fp, .int .i64 ft, .int .i64 fu, .int .i64 fn, .slice a2 fb.length cap2, .int .u64 fg][k]? = some u → w'.cell? ⟨g, off + i * 8 + k, none⟩ = some u) => z.ok.2.2 0 _ rfl
  have m1 := fun z : WIn (fun w' => Blk w' n 47 [.int .i64 ew, .int .i64 (i : Int), .int .u64 ep, .int .i64 et, .int .i64 eu, .int .i64 en, .slice a eb.length cap, .int .u64 eg] ∧ Blk w' la 91 [ptr b, .int .i64 W, .int .u64 p, .slice (some ⟨g, off, none⟩) nv cv', .int .u64 sum] ∧ ∀ k u, [.int .i64 fw, .int .i64 fi, .int .u64 fp, .int .i64 ft, .int .i64 fu, .int .i64 fn, .slice a2 fb.length cap2, .int .u64 fg][k]? = some u → w'.cell? ⟨g, off + i * 8 + k, none⟩ = some u) => z.ok.2.2 1 _ rfl
  have m2 := fun z : WIn (fun w' => Blk w' n 47 [.int .i64 ew, .int .i64 (i : Int), .int .u64 ep, .int .i64 et, .int .i64 eu, .int .i64 en, .slice a eb.length cap, .int .u64 eg] ∧ Blk w' la 91 [ptr b, .int .i64 W, .int .u64 p, .slice (some ⟨g, off, none⟩) nv cv', .int .u64 sum] ∧ ∀ k u, [.int .i64 fw, .int .i64 fi, .int .u64 fp, .int .i64 ft, .int .i64 fu, .int .i64 fn, .slice a2 fb.length cap2, .int .u64 fg][k]? = some u → w'.cell? ⟨g, off + i * 8 + k, none⟩ = some u) => z.ok.2.2 2 _ rfl
  have m3 := fun z : WIn (fun w' => Blk w' n 47 [.int .i64 ew, .int .i64 (i : Int), .int .u64 ep, .int .i64 et, .int .i64 eu, .int .i64 en, .slice a eb.length cap, .int .u64 eg] ∧ Blk w' la 91 [ptr b, .int .i64 W, .int .u64 p, .slice (some ⟨g, off, none⟩) nv cv', .int .u64 sum] ∧ ∀ k u, [.int .i64 fw, .int .i64 fi, .int .u64 fp, .int .i64 ft, .int .i64 fu, .int .i64 fn, .slice a2 fb.length cap2, .int .u64 fg][k]? = some u → w'.cell? ⟨g, off + i * 8 + k, none⟩ = some u) => z.ok.2.2 3 _ rfl
  have m4 := fun z : WIn (fun w' => Blk w' n 47 [.int .i64 ew, .int .i64 (i : Int), .int .u64 ep, .int .i64 et, .int .i64 eu, .int .i64 en, .slice a eb.length cap, .int .u64 eg] ∧ Blk w' la 91 [ptr b, .int .i64 W, .int .u64 p, .slice (some ⟨g, off, none⟩) nv cv', .int .u64 sum] ∧ ∀ k u, [.int .i64 fw, .int .i64 fi, .int .u64 fp, .int .i64 ft, .int .i64 fu, .int .i64 fn, .slice a2 fb.length cap2, .int .u64 fg][k]? = some u → w'.cell? ⟨g, off + i * 8 + k, none⟩ = some u) => z.ok.2.2 4 _ rfl
  have m5 := fun z : WIn (fun w' => Blk w' n 47 [.int .i64 ew, .int .i64 (i : Int), .int .u64 ep, .int .i64 et, .int .i64 eu, .int .i64 en, .slice a eb.length cap, .int .u64 eg] ∧ Blk w' la 91 [ptr b, .int .i64 W, .int .u64 p, .slice (some ⟨g, off, none⟩) nv cv', .int .u64 sum] ∧ ∀ k u, [.int .i64 fw, .int .i64 fi, .int .u64 fp, .int .i64 ft, .int .i64 fu, .int .i64 fn, .slice a2 fb.length cap2, .int .u64 fg][k]? = some u → w'.cell? ⟨g, off + i * 8 + k, none⟩ = some u) => z.ok.2.2 5 _ rfl
  have m6 := fun z : WIn (fun w' => Blk w' n 47 [.int .i64 ew, .int .i64 (i : Int), .int .u64 ep, .int .i64 et, .int .i64 eu, .int .i64 en, .slice a eb.length cap, .int .u64 eg] ∧ Blk w' la 91 [ptr b, .int .i64 W, .int .u64 p, .slice (some ⟨g, off, none⟩) nv cv', .int .u64 sum] ∧ ∀ k u, [.int .i64 fw, .int .i64 fi, .int .u64 fp, .int .i64 ft, .int .i64 fu, .int .i64 fn, .slice a2 fb.length cap2, .int .u64 fg][k]? = some u → w'.cell? ⟨g, off + i * 8 + k, none⟩ = some u) => z.ok.2.2 6 _ rfl
  have m7 := fun z : WIn (fun w' => Blk w' n 47 [.int .i64 ew, .int .i64 (i : Int), .int .u64 ep, .int .i64 et, .int .i64 eu, .int .i64 en, .slice a eb.length cap, .int .u64 eg] ∧ Blk w' la 91 [ptr b, .int .i64 W, .int .u64 p, .slice (some ⟨g, off, none⟩) nv cv', .int .u64 sum] ∧ ∀ k u, [.int .i64 fw, .int .i64 fi, .int .u64 fp, .int .i64 ft, .int .i64 fu, .int .i64 fn, .slice a2 fb.length cap2, .int .u64 fg][k]? = some u → w'.cell? ⟨g, off + i * 8 + k, none⟩ = some u) => z.ok.2.2 7 _ rfl
  simp only [Nat.add_zero] at m0
  have ne : Nonempty (WIn (fun w' => Blk w' n 47 [.int .i64 ew, .int .i64 (i : Int), .int .u64 ep, .int .i64 et, .int .i64 eu, .int .i64 en, .slice a eb.length cap, .int .u64 eg] ∧ Blk w' la 91 [ptr b, .int .i64 W, .int .u64 p, .slice (some ⟨g, off, none⟩) nv cv', .int .u64 sum] ∧ ∀ k u, [.int .i64 fw, .int .i64 fi, .int .u64 fp, .int .i64 ft, .int .i64 fu, .int .i64 fn, .slice a2 fb.length cap2, .int .u64 fg][k]? = some u → w'.cell? ⟨g, off + i * 8 + k, none⟩ = some u)) := ⟨⟨w2, HD2.out w2 (Below.refl _ _)⟩⟩
  refine wp_region_ord (C := fun w' => ∃ z : WIn (fun w' => Blk w' n 47 [.int .i64 ew, .int .i64 (i : Int), .int .u64 ep, .int .i64 et, .int .i64 eu, .int .i64 en, .slice a eb.length cap, .int .u64 eg] ∧ Blk w' la 91 [ptr b, .int .i64 W, .int .u64 p, .slice (some ⟨g, off, none⟩) nv cv', .int .u64 sum] ∧ ∀ k u, [.int .i64 fw, .int .i64 fi, .int .u64 fp, .int .i64 ft, .int .i64 fu, .int .i64 fn, .slice a2 fb.length cap2, .int .u64 fg][k]? = some u → w'.cell? ⟨g, off + i * 8 + k, none⟩ = some u), w' = z.w) [(false, 0), (false, 1), (false, 2), (false, 3), (false, 4), (false, 5), (false, 6), (false, 7), (false, 9), (true, 8), (true, 10), (true, 11), (true, 12), (false, 13)] (by kernel_rfl) (by kernel_rfl) ⟨⟨w2.drew, HD2.out _ (Below.refl _ _).drew⟩, rfl⟩ ?_
  iterate 9 (refine ord_still rfl rfl ?_; go_big_quiet_step (fail); refine wpQuiet_nil ?_)
  refine ord_mem rfl rfl ?_
  go_simp
  refine (HCP.out w2.drew (HY.out.below HB2.out).drew).mono ?_
  rintro r w3 ⟨y3, rfl, ho3, hb3⟩
  obtain ⟨a3, c3, hyy⟩ := ho3.rd.len
  subst hyy
  have HB3 : Hid (Below w2.heap.size w2 w3) := below_undrew hb3
  have HO3 : Hid (Own w2.heap.size 5 w3 (.slice a3 fb.length c3) fb) := ho3
  clear hb3 ho3
  refine ⟨⟨⟨w3, HD2.out w3 HB3.out⟩, rfl⟩, ?_⟩
  refine ord_mem rfl rfl ?_
  go_simp
  refine (HCQ.out w3 (HX.out.below (bnext HB2.out HB3.out))).mono ?_
  rintro r w4 ⟨y4, rfl, ho4, hb4⟩
  obtain ⟨a4, c4, hyy⟩ := ho4.rd.len
  subst hyy
  have HB4 : Hid (Below w2.heap.size w2 w4) := (show Below _ _ _ from bnext HB3.out hb4)
  have HO4 : Hid (Own w2.heap.size 5 w4 (.slice a4 eb.length c4) eb) := ho4.lower HB3.out.size
  have HP3 : Hid (Own w2.heap.size 5 w4 (.slice a3 fb.length c3) fb) := ⟨HO3.out.1, ownsRow_block HO3.out.2 (fun k hk => hb4.block k (HO3.out.2.lt k hk).2)⟩
  clear hb4 ho4
  refine ⟨⟨⟨w4, HD2.out w4 HB4.out⟩, rfl⟩, ?_⟩
  have Y4 := HY2.out.below HB4.out
  have Z4 := HZ2.out.below HB4.out
  have y0 := Y4.cell 0 _ rfl; have y1 := Y4.cell 1 _ rfl; have y2 := Y4.cell 2 _ rfl; have y3 := Y4.cell 3 _ rfl; have y4 := Y4.cell 4 _ rfl; have y5 := Y4.cell 5 _ rfl; have y6 := Y4.cell 6 _ rfl; have y7 := Y4.cell 7 _ rfl; have f0 := Y4.frozen 0; have f1 := Y4.frozen 1; have f2 := Y4.frozen 2; have f3 := Y4.frozen 3; have f4 := Y4.frozen 4; have f5 := Y4.frozen 5; have f6 := Y4.frozen 6; have f7 := Y4.frozen 7
  refine ord_mem rfl rfl ?_
  go_simp
  have G5 := grown_set8 w4 (n + 1) (.int .i64 fw) (.int .i64 fi) (.int .u64 fp) (.int .i64 ft) (.int .i64 fu) (.int .i64 fn) (.slice a3 fb.length c3) (.int .u64 fg)
  have B5 := Y4.set8 (.int .i64 fw) (.int .i64 fi) (.int .u64 fp) (.int .i64 ft) (.int .i64 fu) (.int .i64 fn) (.slice a3 fb.length c3) (.int .u64 fg)
  have Z5 := Z4.past G5 (by omega)
  clear y0 y1 y2 y3 y4 y5 y6 y7 f0 f1 f2 f3 f4 f5 f6 f7
  have HDp : Hid (∀ w' w'' c, n < c → w'.grownBy w'' (some c) → (Blk w' n 47 [.int .i64 ew, .int .i64 (i : Int), .int .u64 ep, .int .i64 et, .int .i64 eu, .int .i64 en, .slice a eb.length cap, .int .u64 eg] ∧ Blk w' la 91 [ptr b, .int .i64 W, .int .u64 p, .slice (some ⟨g, off, none⟩) nv cv', .int .u64 sum] ∧ ∀ k u, [.int .i64 fw, .int .i64 fi, .int .u64 fp, .int .i64 ft, .int .i64 fu, .int .i64 fn, .slice a2 fb.length cap2, .int .u64 fg][k]? = some u → w'.cell? ⟨g, off + i * 8 + k, none⟩ = some u) → (Blk w'' n 47 [.int .i64 ew, .int .i64 (i : Int), .int .u64 ep, .int .i64 et, .int .i64 eu, .int .i64 en, .slice a eb.length cap, .int .u64 eg] ∧ Blk w'' la 91 [ptr b, .int .i64 W, .int .u64 p, .slice (some ⟨g, off, none⟩) nv cv', .int .u64 sum] ∧ ∀ k u, [.int .i64 fw, .int .i64 fi, .int .u64 fp, .int .i64 ft, .int .i64 fu, .int .i64 fn, .slice a2 fb.length cap2, .int .u64 fg][k]? = some u → w''.cell? ⟨g, off + i * 8 + k, none⟩ = some u)) := fun w' w'' c hc hg h => ⟨h.1.past hg (by omega), h.2.1.past hg (by have := HL0.out.lt; have := HNN.out; omega), fun k u hu => by
    rw [World.cell?_of_block (hg.block g (World.block_lt_of_cell? w' _ (h.2.2 k u hu)) (fun e => by have := Option.some.inj e; have := HGl.out; have := HNN.out; omega))]
    exact h.2.2 k u hu⟩
  have D5 := HDp.out _ _ _ (by omega) G5 (HD2.out w4 HB4.out)
  generalize ((((((((w4.setCell ⟨n + 1, 0, none⟩ (.int .i64 fw)).setCell ⟨n + 1, 1, none⟩ (.int .i64 fi)).setCell ⟨n + 1, 2, none⟩ (.int .u64 fp)).setCell ⟨n + 1, 3, none⟩ (.int .i64 ft)).setCell ⟨n + 1, 4, none⟩ (.int .i64 fu)).setCell ⟨n + 1, 5, none⟩ (.int .i64 fn)).setCell ⟨n + 1, 6, none⟩ (.slice a3 fb.length c3)).setCell ⟨n + 1, 7, none⟩ (.int .u64 fg)) = w5 at G5 B5 Z5 D5 ⊢
  have HD5 : Hid (Blk w5 n 47 [.int .i64 ew, .int .i64 (i : Int), .int .u64 ep, .int .i64 et, .int .i64 eu, .int .i64 en, .slice a eb.length cap, .int .u64 eg] ∧ Blk w5 la 91 [ptr b, .int .i64 W, .int .u64 p, .slice (some ⟨g, off, none⟩) nv cv', .int .u64 sum] ∧ ∀ k u, [.int .i64 fw, .int .i64 fi, .int .u64 fp, .int .i64 ft, .int .i64 fu, .int .i64 fn, .slice a2 fb.length cap2, .int .u64 fg][k]? = some u → w5.cell? ⟨g, off + i * 8 + k, none⟩ = some u) := D5
  have HG5 : Hid (w4.grownBy w5 (some (n + 1))) := G5
  have HB5 : Hid (Blk w5 (n + 1) 47 [.int .i64 fw, .int .i64 fi, .int .u64 fp, .int .i64 ft, .int .i64 fu, .int .i64 fn, .slice a3 fb.length c3, .int .u64 fg]) := B5
  have HZ5 : Hid (Blk w5 (n + 2) 47 [.int .i64 0, .int .i64 0, .int .u64 0, .int .i64 0, .int .i64 0, .int .i64 0, .slice none 0 0, .int .u64 0]) := Z5
  clear G5 B5 Z5 D5 Y4 Z4
  refine ⟨⟨⟨w5, HD5.out⟩, rfl⟩, ?_⟩
  have y0 := HZ5.out.cell 0 _ rfl; have y1 := HZ5.out.cell 1 _ rfl; have y2 := HZ5.out.cell 2 _ rfl; have y3 := HZ5.out.cell 3 _ rfl; have y4 := HZ5.out.cell 4 _ rfl; have y5 := HZ5.out.cell 5 _ rfl; have y6 := HZ5.out.cell 6 _ rfl; have y7 := HZ5.out.cell 7 _ rfl; have f0 := HZ5.out.frozen 0; have f1 := HZ5.out.frozen 1; have f2 := HZ5.out.frozen 2; have f3 := HZ5.out.frozen 3; have f4 := HZ5.out.frozen 4; have f5 := HZ5.out.frozen 5; have f6 := HZ5.out.frozen 6; have f7 := HZ5.out.frozen 7
  refine ord_mem rfl rfl ?_
  go_simp
  have G6 := grown_set8 w5 (n + 2) (.int .i64 ew) (.int .i64 (i : Int)) (.int .u64 ep) (.int .i64 et) (.int .i64 eu) (.int .i64 en) (.slice a4 eb.length c4) (.int .u64 eg)
  have B6 := HZ5.out.set8 (.int .i64 ew) (.int .i64 (i : Int)) (.int .u64 ep) (.int .i64 et) (.int .i64 eu) (.int .i64 en) (.slice a4 eb.length c4) (.int .u64 eg)
  have Y6 := HB5.out.past G6 (by omega)
  have D6 := HDp.out _ _ _ (by omega) G6 HD5.out
  clear y0 y1 y2 y3 y4 y5 y6 y7 f0 f1 f2 f3 f4 f5 f6 f7
  generalize ((((((((w5.setCell ⟨n + 2, 0, none⟩ (.int .i64 ew)).setCell ⟨n + 2, 1, none⟩ (.int .i64 (i : Int))).setCell ⟨n + 2, 2, none⟩ (.int .u64 ep)).setCell ⟨n + 2, 3, none⟩ (.int .i64 et)).setCell ⟨n + 2, 4, none⟩ (.int .i64 eu)).setCell ⟨n + 2, 5, none⟩ (.int .i64 en)).setCell ⟨n + 2, 6, none⟩ (.slice a4 eb.length c4)).setCell ⟨n + 2, 7, none⟩ (.int .u64 eg)) = w6 at G6 B6 Y6 D6 ⊢
  refine ⟨⟨⟨w6, D6⟩, rfl⟩, ?_⟩
  have HG6 : Hid (w5.grownBy w6 (some (n + 2))) := G6
  have HB6 : Hid (Blk w6 (n + 2) 47 [.int .i64 ew, .int .i64 (i : Int), .int .u64 ep, .int .i64 et, .int .i64 eu, .int .i64 en, .slice a4 eb.length c4, .int .u64 eg]) := B6
  have HY6 : Hid (Blk w6 (n + 1) 47 [.int .i64 fw, .int .i64 fi, .int .u64 fp, .int .i64 ft, .int .i64 fu, .int .i64 fn, .slice a3 fb.length c3, .int .u64 fg]) := Y6
  clear G6 B6 Y6 D6
  refine ord_still rfl rfl ?_
  go_big_quiet_step (fail)
  refine wpQuiet_nil ?_
  refine ord_end ?_
  clear k0 k1 k2 k3 k4 k5 k6 k7 l3 m0 m1 m2 m3 m4 m5 m6 m7 ne
  go_wp2
  have y0 := HB6.out.cell 0 _ rfl; have y1 := HB6.out.cell 1 _ rfl; have y2 := HB6.out.cell 2 _ rfl; have y3 := HB6.out.cell 3 _ rfl; have y4 := HB6.out.cell 4 _ rfl; have y5 := HB6.out.cell 5 _ rfl; have y6 := HB6.out.cell 6 _ rfl; have y7 := HB6.out.cell 7 _ rfl
  have x0 := HY6.out.cell 0 _ rfl; have x1 := HY6.out.cell 1 _ rfl; have x2 := HY6.out.cell 2 _ rfl; have x3 := HY6.out.cell 3 _ rfl; have x4 := HY6.out.cell 4 _ rfl; have x5 := HY6.out.cell 5 _ rfl; have x6 := HY6.out.cell 6 _ rfl; have x7 := HY6.out.cell 7 _ rfl
  have hn2 : Hid (n + 2 < w2.heap.size) := HZ2.out.lt
  refine bodyPost_ret (v := .tuple #[.agg #[.int .i64 fw, .int .i64 fi, .int .u64 fp, .int .i64 ft, .int .i64 fu, .int .i64 fn, .slice a3 fb.length c3, .int .u64 fg], .agg #[.int .i64 ew, .int .i64 (i : Int), .int .u64 ep, .int .i64 et, .int .i64 eu, .int .i64 en, .slice a4 eb.length c4, .int .u64 eg], .bool true]) ?_ rfl ⟨_, _, rfl, ?_, ?_, ?_⟩
  · rw [results_cct rfl]
    go_simp
  · exact (own_past (own_past HP3.out (by have := hn2.out; omega) HG5.out) hn2.out HG6.out).lower HB2.out.size
  · exact (own_past (own_past HO4.out (by have := hn2.out; omega) HG5.out) hn2.out HG6.out).lower HB2.out.size
  · exact bgrown (bgrown (bnext HB2.out HB4.out) (by have := HNN.out; omega) HG5.out) (by have := HNN.out; omega) HG6.out

theorem odds_yes {w : World} {o : Nat → Nat} {j la b : Nat} {S : St} {W p : Int} {L : Lg} {e f : Ent} {x : Value} (h : Asks w o j la b S W p L e x) (hj : j ≠ 0) (hk : checkM S W p L e = 9) (hf : L.es[e.i.toNat]? = some f) :
    Calls Try.prog 30 #[ptr la, ev e x] w fun r w' => ∃ y1 y2, r = .returned (.tuple #[ev f y1, ev e y2, .bool true]) ∧ Kp0 w' (newTo o w 0) y1 f.b ∧ Kp0 w' (newTo o w 0) y2 e.b ∧ Below w.heap.size w w' := by
  have hr := (check_fork hk).1
  have CK := fun w' (hb : Below w.heap.size w w') => check_any (S := S) (e := e) (x := x) ⟨h.log.mv (Mv.of_below (I := []) 0 hb) (by simp) (by simp), h.orc.mv (Mv.of_below (I := []) 0 hb) (by simp), h.ok, h.rd.below hb, h.len⟩ hj
  rw [hk] at CK
  obtain ⟨v, ps, hA⟩ := h.log
  have hrow := hA.rowE
  obtain ⟨av, cv', rfl⟩ := hrow.len
  have hcap := hrow.cap
  obtain ⟨y, hq⟩ : ∃ y, ps[e.i.toNat]? = some (f, y) := by
    rw [hA.at] at hf
    obtain ⟨q, hq, rfl⟩ := Option.map_eq_some_iff.1 hf
    exact ⟨q.2, hq⟩
  obtain ⟨g, off, rfl, hc⟩ := hrow.at hq
  have hmem := List.mem_of_getElem? hq
  refine (odds_core (i := e.i.toNat) h.rd (by have := h.len; omega) (hA.ents _ hmem).2.1 (by have := hA.short _ hmem; show f.b.length ≤ _; dsimp only at this; omega) hA.few ⟨hcap.2.1, hcap.2.2⟩ (by have := hr.2.1.1; omega) (List.getElem?_eq_some_iff.1 hq).1 hc hA.blk CK).mono ?_
  rintro r w' ⟨y1, y2, rfl, h1, h2, h3⟩
  exact ⟨y1, y2, rfl, Kp0.of_new (w1 := w) h1 (Nat.le_refl _), Kp0.of_new (w1 := w) h2 (Nat.le_refl _), h3⟩
end Go.Proofs.Yteedjdflojfhmaa
