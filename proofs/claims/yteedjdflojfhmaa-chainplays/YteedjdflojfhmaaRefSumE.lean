/-
  The reference's Sum, Sign and Holds of entries.
-/
import Derived.Test.YteedjdflojfhmaaRefS
import Derived.Test.YteedjdflojfhmaaRefTE
import Derived.Test.YteedjdflojfhmaaSignE
namespace Go.Proofs.Yteedjdflojfhmaa
set_option linter.unusedVariables false
set_option linter.unusedSimpArgs false
set_option synthInstance.maxSize 20000
set_option maxHeartbeats 2000000
set_option maxRecDepth 20000
open Go.RowKit Go.Maps

/-- The block of a new row, as a list. -/
def ksOf (x : Value) : List Nat := x.ownBlock.toList
theorem ksOf_ge {B : Nat} {w : World} {x : Value} {l : List Int} (h : Own B 5 w x l) : ∀ k ∈ ksOf x, B ≤ k ∧ k < w.heap.size := fun k hk => h.2.lt k (by simpa [ksOf] using hk)
theorem RefAt.withRow {W : WS} {w w1 w2 : World} {r : Nat} {fr : List Nat} {S : St} {x : Value} {l : List Int} (h : RefAt W w r fr S) (hb1 : Below w.heap.size w w1) (hb2 : Below w1.heap.size w1 w2) (ho : Own w1.heap.size 5 w2 x l) :
    RefAt ⟨W.wd, ksOf x ++ W.sb⟩ w2 r fr S ∧ Kp ⟨W.wd, ksOf x ++ W.sb⟩ w2 x l := by
  refine ⟨(h.below (bnext hb1 hb2)).wider (ksOf x) (fun k hk => ⟨fun e => ?_, (ksOf_ge ho k hk).2⟩), ho.rd, fun k hk => .inr (List.mem_append_left _ (by simp [ksOf, hk]))⟩
  have h1 := h.room k e
  have h2 := (ksOf_ge ho k hk).1
  have h3 := hb1.size
  omega
theorem RefAt.sbl {W : WS} {w : World} {r : Nat} {fr : List Nat} {S : St} (h : RefAt W w r fr S) : ∀ k ∈ W.sb, k < w.heap.size := by
  obtain ⟨R, dv, lv, h⟩ := h
  exact fun k hk => (h.sep k hk).2
theorem RLeft.stores {W : WS} {w w2 w3 w4 : World} {r : Nat} {fr X : List Nat} {S' : St} (h : RLeft W w2 r fr S' w3) (hb : Below w.heap.size w w2) (hroom : ∀ k ∈ fr, k < w.heap.size) (hX : ∀ k ∈ X, w.heap.size ≤ k ∧ k < w2.heap.size ∧ W.wd.heap.size ≤ k ∧ k ∉ W.sb) (ht : Turn X w3 w4) : RLeft W w r fr S' w4 := by
  obtain ⟨⟨fr', ra, of'⟩, t⟩ := h
  refine ⟨⟨fr', ra.turn ht (fun k hk e => ?_) (fun k hk => (hX k hk).2.2), fun k hk => ?_⟩, ((Turn.of_below hb).same t).trans ht (fun k hk => .inr (hX k hk).1)⟩
  · have h1 := hX k e
    rcases of' _ hk with q | q
    · have := hroom _ q; omega
    · omega
  · rcases of' _ hk with q | q
    · exact .inl q
    · exact .inr (Nat.le_trans hb.size q)

theorem rsumE_no (w : World) (o : Value) (e : Ent) (v : Value) (hv : Rd w v e.b) (hr : rightB e = false) :
    Calls Try.prog 60 #[o, ev e v] w fun r w' => r = .returned (.tuple #[.int .u64 0, .int .i64 1]) ∧ Below w.heap.size w w' := by
  have HV : Hid (Rd w v e.b) := hv
  have B := fun w' (h : Rd w' v e.b) => refbytesE_no w' e v h hr
  obtain ⟨a, cap, rfl⟩ := hv.len
  obtain ⟨ew, ei, ep, et, eu, en, eb, eg⟩ := e
  unfold ev at *
  dsimp only at *
  have HBy : Hid (∀ w', Rd w' (.slice a eb.length cap) eb → Calls Try.prog 77 #[.agg #[.int .i64 ew, .int .i64 ei, .int .u64 ep, .int .i64 et, .int .i64 eu, .int .i64 en, .slice a eb.length cap, .int .u64 eg]] w' fun r w'' => r = .returned (.tuple #[.slice none 0 0, .int .i64 1]) ∧ Below w'.heap.size w' w'') := B
  obtain ⟨w1, hw1⟩ : ∃ w1, w1 = w.alloc (.cells #[.int .i64 ew, .int .i64 ei, .int .u64 ep, .int .i64 et, .int .i64 eu, .int .i64 en, .slice a eb.length cap, .int .u64 eg] 47) := ⟨_, rfl⟩
  have HB1 : Hid (Below w.heap.size w w1) := by show Below _ _ _; rw [hw1]; exact balloc (Below.refl _ _) _
  have HX1 : Hid (Blk w1 w.heap.size 47 [.int .i64 ew, .int .i64 ei, .int .u64 ep, .int .i64 et, .int .i64 eu, .int .i64 en, .slice a eb.length cap, .int .u64 eg]) := by show Blk _ _ _ _; rw [hw1]; exact blk_new w [.int .i64 ew, .int .i64 ei, .int .u64 ep, .int .i64 et, .int .i64 eu, .int .i64 en, .slice a eb.length cap, .int .u64 eg] 47
  clear B hv hr
  go_enter Try.func60, Try.ntmps60
  go_upto_region 1 with fail
  rw [← hw1]
  obtain ⟨n, hn⟩ : ∃ n, n = w.heap.size := ⟨_, rfl⟩
  rw [← hn] at HX1 ⊢
  have HNN : Hid (n = w.heap.size) := hn
  clear hw1 hn
  have x0 := HX1.out.cell 0 _ rfl
  have x1 := HX1.out.cell 1 _ rfl
  have x2 := HX1.out.cell 2 _ rfl
  have x3 := HX1.out.cell 3 _ rfl
  have x4 := HX1.out.cell 4 _ rfl
  have x5 := HX1.out.cell 5 _ rfl
  have x6 := HX1.out.cell 6 _ rfl
  have x7 := HX1.out.cell 7 _ rfl
  go_wp2_with (go_at_call 77; go_must (refine (HBy.out w1 (HV.out.below HB1.out)).mono ?_; rintro r w2 ⟨rfl, hb2⟩))
  go_ret2
  exact ⟨rfl, bnext HB1.out hb2⟩

theorem rsumE_yes (W : WS) (w : World) (r : Nat) (fr : List Nat) (S : St) (h : RefAt W w r fr S) (hN : S.rows.length + 1 ≤ 100000) (e : Ent) (v : Value) (he : EOk e) (hv : Rd w v e.b) (hr : rightB e = true) :
    Calls Try.prog 60 #[ptr r, ev e v] w fun q w' => q = .returned (.tuple #[.int .u64 (S.get (.hash (bytesE e))).1, .int .i64 0]) ∧ ∃ ks, (∀ k ∈ ks, w.heap.size ≤ k) ∧ RLeft ⟨W.wd, ks ++ W.sb⟩ w r fr (S.get (.hash (bytesE e))).2 w' := by
  have HV : Hid (Rd w v e.b) := hv
  have HA : Hid (RefAt W w r fr S) := h
  have B := fun w' (h : Rd w' v e.b) => refbytesE_yes w' e v he h hr
  generalize bytesE e = L at *
  obtain ⟨a, cap, rfl⟩ := hv.len
  obtain ⟨ew, ei, ep, et, eu, en, eb, eg⟩ := e
  unfold ev at *
  dsimp only at *
  have HBy : Hid (∀ w', Rd w' (.slice a eb.length cap) eb → Calls Try.prog 77 #[.agg #[.int .i64 ew, .int .i64 ei, .int .u64 ep, .int .i64 et, .int .i64 eu, .int .i64 en, .slice a eb.length cap, .int .u64 eg]] w' fun r w'' => ∃ x, r = .returned (.tuple #[x, .int .i64 0]) ∧ Own w'.heap.size 5 w'' x L ∧ Below w'.heap.size w' w'') := B
  obtain ⟨w1, hw1⟩ : ∃ w1, w1 = w.alloc (.cells #[.int .i64 ew, .int .i64 ei, .int .u64 ep, .int .i64 et, .int .i64 eu, .int .i64 en, .slice a eb.length cap, .int .u64 eg] 47) := ⟨_, rfl⟩
  have HB1 : Hid (Below w.heap.size w w1) := by show Below _ _ _; rw [hw1]; exact balloc (Below.refl _ _) _
  have HX1 : Hid (Blk w1 w.heap.size 47 [.int .i64 ew, .int .i64 ei, .int .u64 ep, .int .i64 et, .int .i64 eu, .int .i64 en, .slice a eb.length cap, .int .u64 eg]) := by show Blk _ _ _ _; rw [hw1]; exact blk_new w [.int .i64 ew, .int .i64 ei, .int .u64 ep, .int .i64 et, .int .i64 eu, .int .i64 en, .slice a eb.length cap, .int .u64 eg] 47
  clear B hv hr he h
  go_enter Try.func60, Try.ntmps60
  go_upto_region 1 with fail
  rw [← hw1]
  obtain ⟨n, hn⟩ : ∃ n, n = w.heap.size := ⟨_, rfl⟩
  rw [← hn] at HX1 ⊢
  have HNN : Hid (n = w.heap.size) := hn
  clear hw1 hn
  have x0 := HX1.out.cell 0 _ rfl
  have x1 := HX1.out.cell 1 _ rfl
  have x2 := HX1.out.cell 2 _ rfl
  have x3 := HX1.out.cell 3 _ rfl
  have x4 := HX1.out.cell 4 _ rfl
  have x5 := HX1.out.cell 5 _ rfl
  have x6 := HX1.out.cell 6 _ rfl
  have x7 := HX1.out.cell 7 _ rfl
  go_wp2_with (first
    | (go_at_call 77; go_must (refine (HBy.out w1 (HV.out.below HB1.out)).mono ?_; rintro q w2 ⟨x, rfl, ho2, hb2⟩; obtain ⟨h2, kp2⟩ := HA.out.withRow HB1.out hb2 ho2; have hks := ksOf_ge ho2; generalize ksOf x = ks at h2 kp2 hks; obtain ⟨ax, cx, hx⟩ := ho2.rd.len; subst hx))
    | (go_at_call 78; go_must (refine (rhash_any _ w2 r fr S h2 hN _ L kp2).mono ?_; rintro q w3 ⟨rfl, hl3⟩)))
  go_ret2
  exact ⟨rfl, ks, fun k hk => Nat.le_trans HB1.out.size (hks k hk).1, RLeft.after (bnext HB1.out hb2) hl3⟩

theorem rholdsE_no (w : World) (o : Value) (p : Int) (e : Ent) (v : Value) (hv : Rd w v e.b) (hr : rightB e = false) :
    Calls Try.prog 55 #[o, .int .u64 p, ev e v] w fun r w' => r = .returned (.bool false) ∧ Below w.heap.size w w' := by
  have HV : Hid (Rd w v e.b) := hv
  have B := fun w' (h : Rd w' v e.b) => reftext_no w' e v h hr
  obtain ⟨a, cap, rfl⟩ := hv.len
  obtain ⟨ew, ei, ep, et, eu, en, eb, eg⟩ := e
  unfold ev at *
  dsimp only at *
  have HBy : Hid (∀ w', Rd w' (.slice a eb.length cap) eb → Calls Try.prog 70 #[.agg #[.int .i64 ew, .int .i64 ei, .int .u64 ep, .int .i64 et, .int .i64 eu, .int .i64 en, .slice a eb.length cap, .int .u64 eg]] w' fun r w'' => r = .returned (.tuple #[.slice none 0 0, .int .i64 1]) ∧ Below w'.heap.size w' w'') := B
  obtain ⟨w1, hw1⟩ : ∃ w1, w1 = w.alloc (.cells #[.int .i64 ew, .int .i64 ei, .int .u64 ep, .int .i64 et, .int .i64 eu, .int .i64 en, .slice a eb.length cap, .int .u64 eg] 47) := ⟨_, rfl⟩
  have HB1 : Hid (Below w.heap.size w w1) := by show Below _ _ _; rw [hw1]; exact balloc (Below.refl _ _) _
  have HX1 : Hid (Blk w1 w.heap.size 47 [.int .i64 ew, .int .i64 ei, .int .u64 ep, .int .i64 et, .int .i64 eu, .int .i64 en, .slice a eb.length cap, .int .u64 eg]) := by show Blk _ _ _ _; rw [hw1]; exact blk_new w [.int .i64 ew, .int .i64 ei, .int .u64 ep, .int .i64 et, .int .i64 eu, .int .i64 en, .slice a eb.length cap, .int .u64 eg] 47
  clear B hv hr
  go_enter Try.func55, Try.ntmps55
  go_upto_region 1 with fail
  rw [← hw1]
  obtain ⟨n, hn⟩ : ∃ n, n = w.heap.size := ⟨_, rfl⟩
  rw [← hn] at HX1 ⊢
  have HNN : Hid (n = w.heap.size) := hn
  clear hw1 hn
  have x0 := HX1.out.cell 0 _ rfl
  have x1 := HX1.out.cell 1 _ rfl
  have x2 := HX1.out.cell 2 _ rfl
  have x3 := HX1.out.cell 3 _ rfl
  have x4 := HX1.out.cell 4 _ rfl
  have x5 := HX1.out.cell 5 _ rfl
  have x6 := HX1.out.cell 6 _ rfl
  have x7 := HX1.out.cell 7 _ rfl
  go_wp2_with (go_at_call 70; go_must (refine (HBy.out w1 (HV.out.below HB1.out)).mono ?_; rintro r w2 ⟨rfl, hb2⟩))
  go_ret
  exact ⟨rfl, bnext HB1.out hb2⟩

theorem rholdsE_any (W : WS) (w : World) (r : Nat) (fr : List Nat) (S : St) (h : RefAt W w r fr S) (hf : Fine S) (p : Int) (e : Ent) (v : Value) (he : EOk e) (hv : Rd w v e.b) :
    Calls Try.prog 55 #[ptr r, .int .u64 p, ev e v] w fun q w' => q = .returned (.bool (rightB e && S.verify p (textL e) e.g)) ∧ Below w.heap.size w w' := by
  by_cases hr' : rightB e = false
  · rw [hr', Bool.false_and]
    exact rholdsE_no w _ p e v hv hr'
  have hr : rightB e = true := by simpa using hr'
  clear hr'
  rw [hr, Bool.true_and]
  have HV : Hid (Rd w v e.b) := hv
  have HA : Hid (RefAt W w r fr S) := h
  have HF : Hid (Fine S) := hf
  have B := fun w' (h : Rd w' v e.b) => reftext_yes w' e v he h hr
  generalize textL e = L at *
  obtain ⟨a, cap, rfl⟩ := hv.len
  obtain ⟨ew, ei, ep, et, eu, en, eb, eg⟩ := e
  unfold ev at *
  dsimp only at *
  have HBy : Hid (∀ w', Rd w' (.slice a eb.length cap) eb → Calls Try.prog 70 #[.agg #[.int .i64 ew, .int .i64 ei, .int .u64 ep, .int .i64 et, .int .i64 eu, .int .i64 en, .slice a eb.length cap, .int .u64 eg]] w' fun r w'' => ∃ x, r = .returned (.tuple #[x, .int .i64 0]) ∧ Own w'.heap.size 5 w'' x L ∧ Below w'.heap.size w' w'') := B
  obtain ⟨w1, hw1⟩ : ∃ w1, w1 = w.alloc (.cells #[.int .i64 ew, .int .i64 ei, .int .u64 ep, .int .i64 et, .int .i64 eu, .int .i64 en, .slice a eb.length cap, .int .u64 eg] 47) := ⟨_, rfl⟩
  have HB1 : Hid (Below w.heap.size w w1) := by show Below _ _ _; rw [hw1]; exact balloc (Below.refl _ _) _
  have HX1 : Hid (Blk w1 w.heap.size 47 [.int .i64 ew, .int .i64 ei, .int .u64 ep, .int .i64 et, .int .i64 eu, .int .i64 en, .slice a eb.length cap, .int .u64 eg]) := by show Blk _ _ _ _; rw [hw1]; exact blk_new w [.int .i64 ew, .int .i64 ei, .int .u64 ep, .int .i64 et, .int .i64 eu, .int .i64 en, .slice a eb.length cap, .int .u64 eg] 47
  clear B hv hr he h hf
  go_enter Try.func55, Try.ntmps55
  go_upto_region 1 with fail
  rw [← hw1]
  obtain ⟨n, hn⟩ : ∃ n, n = w.heap.size := ⟨_, rfl⟩
  rw [← hn] at HX1 ⊢
  have HNN : Hid (n = w.heap.size) := hn
  clear hw1 hn
  have x0 := HX1.out.cell 0 _ rfl
  have x1 := HX1.out.cell 1 _ rfl
  have x2 := HX1.out.cell 2 _ rfl
  have x3 := HX1.out.cell 3 _ rfl
  have x4 := HX1.out.cell 4 _ rfl
  have x5 := HX1.out.cell 5 _ rfl
  have x6 := HX1.out.cell 6 _ rfl
  have x7 := HX1.out.cell 7 _ rfl
  go_wp2_with (first
    | (go_at_call 70; go_must (refine (HBy.out w1 (HV.out.below HB1.out)).mono ?_; rintro q w2 ⟨x, rfl, ho2, hb2⟩; obtain ⟨ax, cx, hx⟩ := ho2.rd.len; subst hx; have Y := HX1.out.below hb2; have y7 := Y.cell 7 _ rfl))
    | (go_at_call 74; go_must (refine (rverify_any W w2 r fr S (HA.out.below (bnext HB1.out hb2)) HF.out p _ L ho2.rd eg).mono ?_; rintro q w3 ⟨rfl, hb3⟩)))
  go_ret
  exact ⟨rfl, bnext (bnext HB1.out hb2) hb3⟩

theorem rsignE_no (w : World) (o : Value) (s : Int) (e : Ent) (v : Value) (hv : Rd w v e.b) (hr : rightB e = false) :
    Calls Try.prog 49 #[o, .int .u64 s, ev e v] w fun r w' => r = .returned (.tuple #[ev zeroE (.slice none 0 0), .int .i64 1]) ∧ Below w.heap.size w w' := by
  have HV : Hid (Rd w v e.b) := hv
  have B := fun w' (h : Rd w' v e.b) => reftext_no w' e v h hr
  obtain ⟨a, cap, rfl⟩ := hv.len
  obtain ⟨ew, ei, ep, et, eu, en, eb, eg⟩ := e
  unfold ev at *
  dsimp only at *
  have HBy : Hid (∀ w', Rd w' (.slice a eb.length cap) eb → Calls Try.prog 70 #[.agg #[.int .i64 ew, .int .i64 ei, .int .u64 ep, .int .i64 et, .int .i64 eu, .int .i64 en, .slice a eb.length cap, .int .u64 eg]] w' fun r w'' => r = .returned (.tuple #[.slice none 0 0, .int .i64 1]) ∧ Below w'.heap.size w' w'') := B
  obtain ⟨w1, hw1⟩ : ∃ w1, w1 = (w.alloc (.cells #[.int .i64 ew, .int .i64 ei, .int .u64 ep, .int .i64 et, .int .i64 eu, .int .i64 en, .slice a eb.length cap, .int .u64 eg] 47)).alloc (.cells #[.int .i64 0, .int .i64 0, .int .u64 0, .int .i64 0, .int .i64 0, .int .i64 0, .slice none 0 0, .int .u64 0] 47) := ⟨_, rfl⟩
  have HB1 : Hid (Below w.heap.size w w1) := by show Below _ _ _; rw [hw1]; exact balloc (balloc (Below.refl _ _) _) _
  have HX1 : Hid (Blk w1 w.heap.size 47 [.int .i64 ew, .int .i64 ei, .int .u64 ep, .int .i64 et, .int .i64 eu, .int .i64 en, .slice a eb.length cap, .int .u64 eg]) := by show Blk _ _ _ _; rw [hw1]; exact (blk_new w [.int .i64 ew, .int .i64 ei, .int .u64 ep, .int .i64 et, .int .i64 eu, .int .i64 en, .slice a eb.length cap, .int .u64 eg] 47).alloc _
  have HZ1 : Hid (Blk w1 (w.heap.size + 1) 47 [.int .i64 0, .int .i64 0, .int .u64 0, .int .i64 0, .int .i64 0, .int .i64 0, .slice none 0 0, .int .u64 0]) := by
    show Blk _ _ _ _
    rw [hw1]
    have := blk_new (w.alloc (.cells #[.int .i64 ew, .int .i64 ei, .int .u64 ep, .int .i64 et, .int .i64 eu, .int .i64 en, .slice a eb.length cap, .int .u64 eg] 47)) [.int .i64 0, .int .i64 0, .int .u64 0, .int .i64 0, .int .i64 0, .int .i64 0, .slice none 0 0, .int .u64 0] 47
    simpa using this
  clear B hv hr
  go_enter Try.func49, Try.ntmps49
  go_upto_region 1 with fail
  rw [← hw1]
  obtain ⟨n, hn⟩ : ∃ n, n = w.heap.size := ⟨_, rfl⟩
  rw [← hn] at HX1 HZ1 ⊢
  have HNN : Hid (n = w.heap.size) := hn
  clear hw1 hn
  have x0 := HX1.out.cell 0 _ rfl
  have x1 := HX1.out.cell 1 _ rfl
  have x2 := HX1.out.cell 2 _ rfl
  have x3 := HX1.out.cell 3 _ rfl
  have x4 := HX1.out.cell 4 _ rfl
  have x5 := HX1.out.cell 5 _ rfl
  have x6 := HX1.out.cell 6 _ rfl
  have x7 := HX1.out.cell 7 _ rfl
  go_wp2_with (go_at_call 70; go_must (refine (HBy.out w1 (HV.out.below HB1.out)).mono ?_; rintro r w2 ⟨rfl, hb2⟩; have Y := HZ1.out.below hb2; have y0 := Y.cell 0 _ rfl; have y1 := Y.cell 1 _ rfl; have y2 := Y.cell 2 _ rfl; have y3 := Y.cell 3 _ rfl; have y4 := Y.cell 4 _ rfl; have y5 := Y.cell 5 _ rfl; have y6 := Y.cell 6 _ rfl; have y7 := Y.cell 7 _ rfl; have f0 := Y.frozen 0; have f1 := Y.frozen 1; have f2 := Y.frozen 2; have f3 := Y.frozen 3; have f4 := Y.frozen 4; have f5 := Y.frozen 5; have f6 := Y.frozen 6; have f7 := Y.frozen 7))
  refine bodyPost_ret (v := .tuple #[.agg #[.int .i64 0, .int .i64 0, .int .u64 0, .int .i64 0, .int .i64 0, .int .i64 0, .slice none 0 0, .int .u64 0], .int .i64 1]) ?_ rfl ⟨rfl, ?_⟩
  · rw [results_cell_tmp rfl]
    go_simp
  · exact bgrown (bnext HB1.out hb2) (by have := HNN.out; omega) (grown_set8 _ _ _ _ _ _ _ _ _ _)

theorem rsignE_bad (W : WS) (w : World) (r : Nat) (fr : List Nat) (S : St) (h : RefAt W w r fr S) (hN : S.rows.length + 1 ≤ 100000) (s : Int) (e : Ent) (v : Value) (he : EOk e) (hv : Rd w v e.b) (hr : rightB e = true) (hk : (S.sign s (textL e)).1.2 ≠ 0) :
    Calls Try.prog 49 #[ptr r, .int .u64 s, ev e v] w fun q w' => q = .returned (.tuple #[ev zeroE (.slice none 0 0), .int .i64 (S.sign s (textL e)).1.2]) ∧ ∃ ks, (∀ k ∈ ks, w.heap.size ≤ k) ∧ RLeft ⟨W.wd, ks ++ W.sb⟩ w r fr (S.sign s (textL e)).2 w' := by
  have HV : Hid (Rd w v e.b) := hv
  have HA : Hid (RefAt W w r fr S) := h
  have HRM : Hid (∀ k ∈ fr, k < w.heap.size) := h.room
  have HSB : Hid (∀ k ∈ W.sb, k < w.heap.size) := h.sbl
  have HWW : Hid (W.wd.heap.size ≤ w.heap.size) := h.bel.size
  have B := fun w' (h : Rd w' v e.b) => reftext_yes w' e v he h hr
  have SG := fun W' w' x (h : RefAt W' w' r fr S) (hx : Kp W' w' x (textL e)) => rsign_any W' w' r fr S h hN s x (textL e) hx
  generalize textL e = L at *
  generalize S.sign s L = t at *
  obtain ⟨⟨g, k⟩, S'⟩ := t
  dsimp only at *
  have HSG : Hid (∀ W' w' x, RefAt W' w' r fr S → Kp W' w' x L → Calls Try.prog 71 #[ptr r, .int .u64 s, x] w' fun e w'' => e = .returned (.tuple #[.int .u64 g, .int .i64 k]) ∧ RLeft W' w' r fr S' w'') := SG
  have hk' : (k != 0) = true := by simpa using hk
  obtain ⟨a, cap, rfl⟩ := hv.len
  obtain ⟨ew, ei, ep, et, eu, en, eb, eg⟩ := e
  unfold ev at *
  dsimp only at *
  have HBy : Hid (∀ w', Rd w' (.slice a eb.length cap) eb → Calls Try.prog 70 #[.agg #[.int .i64 ew, .int .i64 ei, .int .u64 ep, .int .i64 et, .int .i64 eu, .int .i64 en, .slice a eb.length cap, .int .u64 eg]] w' fun r w'' => ∃ x, r = .returned (.tuple #[x, .int .i64 0]) ∧ Own w'.heap.size 5 w'' x L ∧ Below w'.heap.size w' w'') := B
  obtain ⟨w1, hw1⟩ : ∃ w1, w1 = (w.alloc (.cells #[.int .i64 ew, .int .i64 ei, .int .u64 ep, .int .i64 et, .int .i64 eu, .int .i64 en, .slice a eb.length cap, .int .u64 eg] 47)).alloc (.cells #[.int .i64 0, .int .i64 0, .int .u64 0, .int .i64 0, .int .i64 0, .int .i64 0, .slice none 0 0, .int .u64 0] 47) := ⟨_, rfl⟩
  have HB1 : Hid (Below w.heap.size w w1) := by show Below _ _ _; rw [hw1]; exact balloc (balloc (Below.refl _ _) _) _
  have HX1 : Hid (Blk w1 w.heap.size 47 [.int .i64 ew, .int .i64 ei, .int .u64 ep, .int .i64 et, .int .i64 eu, .int .i64 en, .slice a eb.length cap, .int .u64 eg]) := by show Blk _ _ _ _; rw [hw1]; exact (blk_new w [.int .i64 ew, .int .i64 ei, .int .u64 ep, .int .i64 et, .int .i64 eu, .int .i64 en, .slice a eb.length cap, .int .u64 eg] 47).alloc _
  have HZ1 : Hid (Blk w1 (w.heap.size + 1) 47 [.int .i64 0, .int .i64 0, .int .u64 0, .int .i64 0, .int .i64 0, .int .i64 0, .slice none 0 0, .int .u64 0]) := by
    show Blk _ _ _ _
    rw [hw1]
    have := blk_new (w.alloc (.cells #[.int .i64 ew, .int .i64 ei, .int .u64 ep, .int .i64 et, .int .i64 eu, .int .i64 en, .slice a eb.length cap, .int .u64 eg] 47)) [.int .i64 0, .int .i64 0, .int .u64 0, .int .i64 0, .int .i64 0, .int .i64 0, .slice none 0 0, .int .u64 0] 47
    simpa using this
  clear B hv hr he SG h hk
  go_enter Try.func49, Try.ntmps49
  go_upto_region 1 with fail
  rw [← hw1]
  obtain ⟨n, hn⟩ : ∃ n, n = w.heap.size := ⟨_, rfl⟩
  rw [← hn] at HX1 HZ1 ⊢
  have HNN : Hid (n = w.heap.size) := hn
  clear hw1 hn
  have x0 := HX1.out.cell 0 _ rfl
  have x1 := HX1.out.cell 1 _ rfl
  have x2 := HX1.out.cell 2 _ rfl
  have x3 := HX1.out.cell 3 _ rfl
  have x4 := HX1.out.cell 4 _ rfl
  have x5 := HX1.out.cell 5 _ rfl
  have x6 := HX1.out.cell 6 _ rfl
  have x7 := HX1.out.cell 7 _ rfl
  go_wp2_with (first
    | (go_at_call 70; go_must (refine (HBy.out w1 (HV.out.below HB1.out)).mono ?_; rintro q w2 ⟨x, rfl, ho2, hb2⟩; obtain ⟨h2, kp2⟩ := HA.out.withRow HB1.out hb2 ho2; have hks := ksOf_ge ho2; generalize ksOf x = ks at h2 kp2 hks; obtain ⟨ax, cx, hx⟩ := ho2.rd.len; subst hx))
    | (go_at_call 71; go_must (refine (HSG.out _ w2 _ h2 kp2).mono ?_; rintro q w3 ⟨rfl, hl3⟩; have Y2 := HZ1.out.below hb2; have Y := Y2.block (hl3.2.block _ Y2.lt (fun e => by have := HRM.out _ e; have := HNN.out; omega)); have y0 := Y.cell 0 _ rfl; have y1 := Y.cell 1 _ rfl; have y2 := Y.cell 2 _ rfl; have y3 := Y.cell 3 _ rfl; have y4 := Y.cell 4 _ rfl; have y5 := Y.cell 5 _ rfl; have y6 := Y.cell 6 _ rfl; have y7 := Y.cell 7 _ rfl; have f0 := Y.frozen 0; have f1 := Y.frozen 1; have f2 := Y.frozen 2; have f3 := Y.frozen 3; have f4 := Y.frozen 4; have f5 := Y.frozen 5; have f6 := Y.frozen 6; have f7 := Y.frozen 7)))
  refine bodyPost_ret (v := .tuple #[.agg #[.int .i64 0, .int .i64 0, .int .u64 0, .int .i64 0, .int .i64 0, .int .i64 0, .slice none 0 0, .int .u64 0], .int .i64 k]) ?_ rfl ⟨rfl, ks, fun k hk => Nat.le_trans HB1.out.size (hks k hk).1, ?_⟩
  · rw [results_cell_tmp rfl]
    go_simp
  · refine hl3.stores (X := [n + 1]) (bnext HB1.out hb2) HRM.out (fun j hj => ?_) (Turn.of_grown (grown_set8 _ _ _ _ _ _ _ _ _ _) (by simp))
    have h1 := HZ1.out.lt
    have h2' := hb2.size
    have h3 := HNN.out
    have h4 := HWW.out
    simp at hj
    refine ⟨by omega, by omega, (show W.wd.heap.size ≤ j by omega), fun e => ?_⟩
    rcases List.mem_append.1 e with e | e
    · have := (hks j e).1; omega
    · have := HSB.out j e; omega

theorem rsignE_yes (W : WS) (w : World) (r : Nat) (fr : List Nat) (S : St) (h : RefAt W w r fr S) (hN : S.rows.length + 1 ≤ 100000) (s : Int) (e : Ent) (v : Value) (he : EOk e) (hv : Rd w v e.b) (hr : rightB e = true) (hk : (S.sign s (textL e)).1.2 = 0) :
    Calls Try.prog 49 #[ptr r, .int .u64 s, ev e v] w fun q w' => q = .returned (.tuple #[ev { e with g := (S.sign s (textL e)).1.1 } v, .int .i64 0]) ∧ ∃ ks, (∀ k ∈ ks, w.heap.size ≤ k) ∧ RLeft ⟨W.wd, ks ++ W.sb⟩ w r fr (S.sign s (textL e)).2 w' := by
  have HV : Hid (Rd w v e.b) := hv
  have HA : Hid (RefAt W w r fr S) := h
  have HRM : Hid (∀ k ∈ fr, k < w.heap.size) := h.room
  have HSB : Hid (∀ k ∈ W.sb, k < w.heap.size) := h.sbl
  have HWW : Hid (W.wd.heap.size ≤ w.heap.size) := h.bel.size
  have B := fun w' (h : Rd w' v e.b) => reftext_yes w' e v he h hr
  have SG := fun W' w' x (h : RefAt W' w' r fr S) (hx : Kp W' w' x (textL e)) => rsign_any W' w' r fr S h hN s x (textL e) hx
  generalize textL e = L at *
  generalize S.sign s L = t at *
  obtain ⟨⟨g, k⟩, S'⟩ := t
  dsimp only at *
  subst hk
  have HSG : Hid (∀ W' w' x, RefAt W' w' r fr S → Kp W' w' x L → Calls Try.prog 71 #[ptr r, .int .u64 s, x] w' fun e w'' => e = .returned (.tuple #[.int .u64 g, .int .i64 0]) ∧ RLeft W' w' r fr S' w'') := SG
  obtain ⟨a, cap, rfl⟩ := hv.len
  obtain ⟨ew, ei, ep, et, eu, en, eb, eg⟩ := e
  unfold ev at *
  dsimp only at *
  have HBy : Hid (∀ w', Rd w' (.slice a eb.length cap) eb → Calls Try.prog 70 #[.agg #[.int .i64 ew, .int .i64 ei, .int .u64 ep, .int .i64 et, .int .i64 eu, .int .i64 en, .slice a eb.length cap, .int .u64 eg]] w' fun r w'' => ∃ x, r = .returned (.tuple #[x, .int .i64 0]) ∧ Own w'.heap.size 5 w'' x L ∧ Below w'.heap.size w' w'') := B
  obtain ⟨w1, hw1⟩ : ∃ w1, w1 = (w.alloc (.cells #[.int .i64 ew, .int .i64 ei, .int .u64 ep, .int .i64 et, .int .i64 eu, .int .i64 en, .slice a eb.length cap, .int .u64 eg] 47)).alloc (.cells #[.int .i64 0, .int .i64 0, .int .u64 0, .int .i64 0, .int .i64 0, .int .i64 0, .slice none 0 0, .int .u64 0] 47) := ⟨_, rfl⟩
  have HB1 : Hid (Below w.heap.size w w1) := by show Below _ _ _; rw [hw1]; exact balloc (balloc (Below.refl _ _) _) _
  have HX1 : Hid (Blk w1 w.heap.size 47 [.int .i64 ew, .int .i64 ei, .int .u64 ep, .int .i64 et, .int .i64 eu, .int .i64 en, .slice a eb.length cap, .int .u64 eg]) := by show Blk _ _ _ _; rw [hw1]; exact (blk_new w [.int .i64 ew, .int .i64 ei, .int .u64 ep, .int .i64 et, .int .i64 eu, .int .i64 en, .slice a eb.length cap, .int .u64 eg] 47).alloc _
  have HZ1 : Hid (Blk w1 (w.heap.size + 1) 47 [.int .i64 0, .int .i64 0, .int .u64 0, .int .i64 0, .int .i64 0, .int .i64 0, .slice none 0 0, .int .u64 0]) := by
    show Blk _ _ _ _
    rw [hw1]
    have := blk_new (w.alloc (.cells #[.int .i64 ew, .int .i64 ei, .int .u64 ep, .int .i64 et, .int .i64 eu, .int .i64 en, .slice a eb.length cap, .int .u64 eg] 47)) [.int .i64 0, .int .i64 0, .int .u64 0, .int .i64 0, .int .i64 0, .int .i64 0, .slice none 0 0, .int .u64 0] 47
    simpa using this
  clear B hv hr he SG h
  go_enter Try.func49, Try.ntmps49
  go_upto_region 1 with fail
  rw [← hw1]
  obtain ⟨n, hn⟩ : ∃ n, n = w.heap.size := ⟨_, rfl⟩
  rw [← hn] at HX1 HZ1 ⊢
  have HNN : Hid (n = w.heap.size) := hn
  clear hw1 hn
  have x0 := HX1.out.cell 0 _ rfl
  have x1 := HX1.out.cell 1 _ rfl
  have x2 := HX1.out.cell 2 _ rfl
  have x3 := HX1.out.cell 3 _ rfl
  have x4 := HX1.out.cell 4 _ rfl
  have x5 := HX1.out.cell 5 _ rfl
  have x6 := HX1.out.cell 6 _ rfl
  have x7 := HX1.out.cell 7 _ rfl
  go_wp2_with (first
    | (go_at_call 70; go_must (refine (HBy.out w1 (HV.out.below HB1.out)).mono ?_; rintro q w2 ⟨x, rfl, ho2, hb2⟩; obtain ⟨h2, kp2⟩ := HA.out.withRow HB1.out hb2 ho2; have hks := ksOf_ge ho2; generalize ksOf x = ks at h2 kp2 hks; obtain ⟨ax, cx, hx⟩ := ho2.rd.len; subst hx))
    | (go_at_call 71; go_must (refine (HSG.out _ w2 _ h2 kp2).mono ?_; rintro q w3 ⟨rfl, hl3⟩; have Y2 := HX1.out.below hb2; have Y := Y2.block (hl3.2.block _ Y2.lt (fun e => by have := HRM.out _ e; have := HNN.out; omega)); have Z2 := HZ1.out.below hb2; have Z := Z2.block (hl3.2.block _ Z2.lt (fun e => by have := HRM.out _ e; have := HNN.out; omega)); have p0 := Y.cell 0 _ rfl; have p1 := Y.cell 1 _ rfl; have p2 := Y.cell 2 _ rfl; have p3 := Y.cell 3 _ rfl; have p4 := Y.cell 4 _ rfl; have p5 := Y.cell 5 _ rfl; have p6 := Y.cell 6 _ rfl; have p7 := Y.cell 7 _ rfl; have q0 := Y.frozen 0; have q1 := Y.frozen 1; have q2 := Y.frozen 2; have q3 := Y.frozen 3; have q4 := Y.frozen 4; have q5 := Y.frozen 5; have q6 := Y.frozen 6; have q7 := Y.frozen 7; have z0 := Z.cell 0 _ rfl; have z1 := Z.cell 1 _ rfl; have z2 := Z.cell 2 _ rfl; have z3 := Z.cell 3 _ rfl; have z4 := Z.cell 4 _ rfl; have z5 := Z.cell 5 _ rfl; have z6 := Z.cell 6 _ rfl; have z7 := Z.cell 7 _ rfl; have f0 := Z.frozen 0; have f1 := Z.frozen 1; have f2 := Z.frozen 2; have f3 := Z.frozen 3; have f4 := Z.frozen 4; have f5 := Z.frozen 5; have f6 := Z.frozen 6; have f7 := Z.frozen 7)))
  have G1 := grown_setCell w3 n 7 (.int .u64 g)
  refine bodyPost_ret (v := .tuple #[.agg #[.int .i64 ew, .int .i64 ei, .int .u64 ep, .int .i64 et, .int .i64 eu, .int .i64 en, .slice a eb.length cap, .int .u64 g], .int .i64 0]) ?_ rfl ⟨rfl, ks, fun k hk => Nat.le_trans HB1.out.size (hks k hk).1, ?_⟩
  · rw [results_cell_tmp rfl]
    go_simp
  · have G2 := grown_set8 (w3.setCell ⟨n, 7, none⟩ (.int .u64 g)) (n + 1) (.int .i64 ew) (.int .i64 ei) (.int .u64 ep) (.int .i64 et) (.int .i64 eu) (.int .i64 en) (.slice a eb.length cap) (.int .u64 g)
    refine hl3.stores (X := [n, n + 1]) (bnext HB1.out hb2) HRM.out (fun j hj => ?_) ((Turn.of_grown G1 (by simp)).same (Turn.of_grown G2 (by simp)))
    have h1 := HZ1.out.lt
    have h2' := hb2.size
    have h3 := HNN.out
    have h4 := HWW.out
    have hj' : j = n ∨ j = n + 1 := by simpa using hj
    refine ⟨by omega, by omega, (show W.wd.heap.size ≤ j by omega), fun e => ?_⟩
    rcases List.mem_append.1 e with e | e
    · have := (hks j e).1; omega
    · have := HSB.out j e; omega
end Go.Proofs.Yteedjdflojfhmaa
