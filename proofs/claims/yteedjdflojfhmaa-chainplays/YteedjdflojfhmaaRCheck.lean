/-
  The reference's log: Check, where the sum of the last one is known.
  The reference's log: Check, a case of it (RChkA).
  The reference's log: Check, a case of it (RChkB).
  The reference's log: Check, a case of it (RChkC).
  The reference's log: Check, a case of it (RChkD).
  The reference's log: Check, a case of it (RChkE).
  The reference's Check.
-/
import Derived.Test.YteedjdflojfhmaaRLog
namespace Go.Proofs.Yteedjdflojfhmaa
section
set_option linter.unusedVariables false
set_option linter.unusedSimpArgs false
set_option synthInstance.maxSize 20000
set_option maxHeartbeats 2000000
set_option maxRecDepth 20000
open Go.RowKit Go.Maps

@[simp] theorem run_field69 (w : World) (a b c : Int) : (Instr.field 69 (.agg #[.int .i64 a, .int .i64 b, .int .u64 c]) 2).run Try.prog w = .ok (.int .u64 c) w := by kernel_rfl

section
variable {S : St} {W p : Int} {L : Lg} {e : Ent}
theorem ck1 (h : rightB e = false) : checkM S W p L e = 1 := by simp [checkM, askK, firstK, unl, h]
theorem ck2 (h : rightB e = true) (h2 : e.w ≠ W) : checkM S W p L e = 20 := by
  have : (e.w == W) = false := by simpa using h2
  simp [checkM, askK, firstK, unl, h, this]
theorem ck3 (h : rightB e = true) (h2 : e.w = W) (h3 : S.verify p (textL e) e.g = false) : checkM S W p L e = 6 := by simp [checkM, askK, firstK, unl, h, h2, h3]
theorem ck4 (h : rightB e = true) (h2 : e.w = W) (h3 : S.verify p (textL e) e.g = true) {f : Ent} (h4 : L.es[e.i.toNat]? = some f) : checkM S W p L e = if sameB e f = true then 8 else 9 := by
  have hm : metK L.es e = if sameB e f = true then 8 else 9 := by unfold metK; rw [h4]
  have h5 : unl (e.w == W) 20 = 0 := by rw [h2]; simp [unl]
  unfold checkM askK
  rw [hm, h5, h, h3]
  by_cases c : sameB e f = true
  · rw [if_pos c]; simp [firstK, unl]
  · rw [if_neg c]; simp [firstK, unl]
theorem ck5 (h : rightB e = true) (h2 : e.w = W) (h3 : S.verify p (textL e) e.g = true) (h4 : L.es.length < e.i) : checkM S W p L e = 7 := by
  have hm : metK L.es e = 0 := by unfold metK; rw [List.getElem?_eq_none (by omega)]
  have h5 : (e.i == (L.es.length : Int)) = false := by simp; omega
  simp [checkM, askK, firstK, unl, h, h2, h3, hm, h5]
theorem ck6 (h : rightB e = true) (h2 : e.w = W) (h3 : S.verify p (textL e) e.g = true) (h4 : e.i = L.es.length) (h5 : e.p ≠ L.sum) : checkM S W p L e = 5 := by
  have hm : metK L.es e = 0 := by unfold metK; rw [List.getElem?_eq_none (by omega)]
  have h6 : (e.p == L.sum) = false := by simpa using h5
  simp [checkM, askK, firstK, unl, h, h2, h3, hm, h4, h6]
theorem ck7 (h : rightB e = true) (h2 : e.w = W) (h3 : S.verify p (textL e) e.g = true) (h4 : e.i = L.es.length) (h5 : e.p = L.sum) : checkM S W p L e = if laterB L.es e = true then 0 else 2 := by
  have hm : metK L.es e = 0 := by unfold metK; rw [List.getElem?_eq_none (by omega)]
  have h6 : unl (e.w == W) 20 = 0 := by rw [h2]; simp [unl]
  have h7 : unl (e.i == (L.es.length : Int)) 7 = 0 := by rw [h4]; simp [unl]
  have h8 : unl (e.p == L.sum) 5 = 0 := by rw [h5]; simp [unl]
  unfold checkM askK
  rw [hm, h6, h, h3, h7, h8]
  cases laterB L.es e <;> simp [firstK, unl]
end

/-- What Check of the reference needs. -/
structure RAsk (w0 w : World) (o : Nat → Nat) (j lx r : Nat) (T : St) (W p : Int) (es : List Ent) (sum : Int) (e : Ent) (x : Value) : Prop where
  log : RLogIs w o j lx W p es
  orc : ROrc w0 w o r T
  fine : Fine T
  ok : EOk e
  rd : Rd w x e.b
  head : headM T es = (sum, T)
  last : ∀ f, es.getLast? = some f → rightB f = true
  j8 : j ≠ 8
  few : T.rows.length + 1 ≤ 100000

theorem rck1 {w0 w : World} {o : Nat → Nat} {j lx r : Nat} {T : St} {W p : Int} {es : List Ent} {sum : Int} {e : Ent} {x : Value} (h : RAsk w0 w o j lx r T W p es sum e x) (h1 : rightB e = false) :
    Calls Try.prog 24 #[ptr lx, ptr r, ev e x] w fun q w' => q = .returned (.int .i64 1) ∧ ∃ o', ROrc w0 w' o' r T ∧ Mv [8] w o w' o' := by
  have RT := fun w' (hb : Below w.heap.size w w') => refrightE_any e x w' (h.rd.below hb)
  have HK := fun w' (hb : Below w.heap.size w w') => (⟨_, h.orc.below hb, Mv.of_below 0 hb⟩ : ∃ o', ROrc w0 w' o' r T ∧ Mv [8] w o w' o')
  rw [h1] at RT
  obtain ⟨v, ps, hA⟩ := h.log
  obtain ⟨av, cv', rfl, hcv1, hcv2, _⟩ := hA.row.slice
  have hlen : es.length = ps.length := hA.len
  have hblk := hA.blk
  have hfew := hA.few
  unfold maxLen at hcv2
  obtain ⟨a, cap, hxx⟩ := h.rd.len
  subst hxx
  clear h hA
  obtain ⟨ew, ei, ep, et, eu, en, eb, eg⟩ := e
  unfold ev at *
  dsimp only at *
  have HRT : Hid (∀ w', Below w.heap.size w w' → Calls Try.prog 47 #[.agg #[.int .i64 ew, .int .i64 ei, .int .u64 ep, .int .i64 et, .int .i64 eu, .int .i64 en, .slice a eb.length cap, .int .u64 eg]] w' fun q w'' => q = .returned (.bool false) ∧ Below w'.heap.size w' w'') := RT
  have HKO : Hid (∀ w', Below w.heap.size w w' → ∃ o', ROrc w0 w' o' r T ∧ Mv [8] w o w' o') := HK
  obtain ⟨w1, hw1⟩ : ∃ w1, w1 = w.alloc (.cells #[.int .i64 ew, .int .i64 ei, .int .u64 ep, .int .i64 et, .int .i64 eu, .int .i64 en, .slice a eb.length cap, .int .u64 eg] 47) := ⟨_, rfl⟩
  have HB1 : Hid (Below w.heap.size w w1) := by show Below _ _ _; rw [hw1]; exact balloc (Below.refl _ _) _
  have HX1 : Hid (Blk w1 w.heap.size 47 [.int .i64 ew, .int .i64 ei, .int .u64 ep, .int .i64 et, .int .i64 eu, .int .i64 en, .slice a eb.length cap, .int .u64 eg]) := by show Blk _ _ _ _; rw [hw1]; exact blk_new w [.int .i64 ew, .int .i64 ei, .int .u64 ep, .int .i64 et, .int .i64 eu, .int .i64 en, .slice a eb.length cap, .int .u64 eg] 47
  have HL1 : Hid (Blk w1 lx 42 [.int .i64 W, .int .u64 p, .slice av ps.length cv']) := (show Blk _ _ _ _ from hblk.below HB1.out)
  clear RT HK hblk
  go_enter Try.func24, Try.ntmps24
  go_upto_region 1 with fail
  rw [← hw1]
  obtain ⟨n, hn⟩ : ∃ n, n = w.heap.size := ⟨_, rfl⟩
  rw [← hn] at HX1 ⊢
  have HNN : Hid (n = w.heap.size) := hn
  clear hw1 hn
  have c0 := HX1.out.cell 0 _ rfl; have c1 := HX1.out.cell 1 _ rfl; have c2 := HX1.out.cell 2 _ rfl; have c3 := HX1.out.cell 3 _ rfl; have c4 := HX1.out.cell 4 _ rfl; have c5 := HX1.out.cell 5 _ rfl; have c6 := HX1.out.cell 6 _ rfl; have c7 := HX1.out.cell 7 _ rfl
  go_wp2_with (go_at_call 47; go_must (refine (HRT.out w1 HB1.out).mono ?_; rintro q w2 ⟨rfl, hb2⟩; have HB2 : Hid (Below w1.heap.size w1 w2) := hb2; clear hb2))
  go_ret
  exact ⟨rfl, HKO.out w2 (bnext HB1.out HB2.out)⟩

theorem rck2 {w0 w : World} {o : Nat → Nat} {j lx r : Nat} {T : St} {W p : Int} {es : List Ent} {sum : Int} {e : Ent} {x : Value} (h : RAsk w0 w o j lx r T W p es sum e x) (h1 : rightB e = true) (h2 : e.w ≠ W) :
    Calls Try.prog 24 #[ptr lx, ptr r, ev e x] w fun q w' => q = .returned (.int .i64 20) ∧ ∃ o', ROrc w0 w' o' r T ∧ Mv [8] w o w' o' := by
  have RT := fun w' (hb : Below w.heap.size w w') => refrightE_any e x w' (h.rd.below hb)
  have HK := fun w' (hb : Below w.heap.size w w') => (⟨_, h.orc.below hb, Mv.of_below 0 hb⟩ : ∃ o', ROrc w0 w' o' r T ∧ Mv [8] w o w' o')
  rw [h1] at RT
  obtain ⟨v, ps, hA⟩ := h.log
  obtain ⟨av, cv', rfl, hcv1, hcv2, _⟩ := hA.row.slice
  have hlen : es.length = ps.length := hA.len
  have hblk := hA.blk
  have hfew := hA.few
  unfold maxLen at hcv2
  have h2' : (e.w != W) = true := by simpa using h2
  clear h2
  obtain ⟨a, cap, hxx⟩ := h.rd.len
  subst hxx
  clear h hA
  obtain ⟨ew, ei, ep, et, eu, en, eb, eg⟩ := e
  unfold ev at *
  dsimp only at *
  have HRT : Hid (∀ w', Below w.heap.size w w' → Calls Try.prog 47 #[.agg #[.int .i64 ew, .int .i64 ei, .int .u64 ep, .int .i64 et, .int .i64 eu, .int .i64 en, .slice a eb.length cap, .int .u64 eg]] w' fun q w'' => q = .returned (.bool true) ∧ Below w'.heap.size w' w'') := RT
  have HKO : Hid (∀ w', Below w.heap.size w w' → ∃ o', ROrc w0 w' o' r T ∧ Mv [8] w o w' o') := HK
  obtain ⟨w1, hw1⟩ : ∃ w1, w1 = w.alloc (.cells #[.int .i64 ew, .int .i64 ei, .int .u64 ep, .int .i64 et, .int .i64 eu, .int .i64 en, .slice a eb.length cap, .int .u64 eg] 47) := ⟨_, rfl⟩
  have HB1 : Hid (Below w.heap.size w w1) := by show Below _ _ _; rw [hw1]; exact balloc (Below.refl _ _) _
  have HX1 : Hid (Blk w1 w.heap.size 47 [.int .i64 ew, .int .i64 ei, .int .u64 ep, .int .i64 et, .int .i64 eu, .int .i64 en, .slice a eb.length cap, .int .u64 eg]) := by show Blk _ _ _ _; rw [hw1]; exact blk_new w [.int .i64 ew, .int .i64 ei, .int .u64 ep, .int .i64 et, .int .i64 eu, .int .i64 en, .slice a eb.length cap, .int .u64 eg] 47
  have HL1 : Hid (Blk w1 lx 42 [.int .i64 W, .int .u64 p, .slice av ps.length cv']) := (show Blk _ _ _ _ from hblk.below HB1.out)
  clear RT HK hblk
  go_enter Try.func24, Try.ntmps24
  go_upto_region 1 with fail
  rw [← hw1]
  obtain ⟨n, hn⟩ : ∃ n, n = w.heap.size := ⟨_, rfl⟩
  rw [← hn] at HX1 ⊢
  have HNN : Hid (n = w.heap.size) := hn
  clear hw1 hn
  have c0 := HX1.out.cell 0 _ rfl; have c1 := HX1.out.cell 1 _ rfl; have c2 := HX1.out.cell 2 _ rfl; have c3 := HX1.out.cell 3 _ rfl; have c4 := HX1.out.cell 4 _ rfl; have c5 := HX1.out.cell 5 _ rfl; have c6 := HX1.out.cell 6 _ rfl; have c7 := HX1.out.cell 7 _ rfl
  go_upto_region 3 with (go_at_call 47; go_must (refine (HRT.out w1 HB1.out).mono ?_; rintro q w2 ⟨rfl, hb2⟩; have HB2 : Hid (Below w1.heap.size w1 w2) := hb2; clear hb2))
  clear c0 c1 c2 c3 c4 c5 c6 c7
  have k0 := fun z : WIn (fun w' => Below w1.heap.size w1 w') => (HX1.out.below z.ok).cell 0 _ rfl
  have k1 := fun z : WIn (fun w' => Below w1.heap.size w1 w') => (HX1.out.below z.ok).cell 1 _ rfl
  have k2 := fun z : WIn (fun w' => Below w1.heap.size w1 w') => (HX1.out.below z.ok).cell 2 _ rfl
  have k3 := fun z : WIn (fun w' => Below w1.heap.size w1 w') => (HX1.out.below z.ok).cell 3 _ rfl
  have k4 := fun z : WIn (fun w' => Below w1.heap.size w1 w') => (HX1.out.below z.ok).cell 4 _ rfl
  have k5 := fun z : WIn (fun w' => Below w1.heap.size w1 w') => (HX1.out.below z.ok).cell 5 _ rfl
  have k6 := fun z : WIn (fun w' => Below w1.heap.size w1 w') => (HX1.out.below z.ok).cell 6 _ rfl
  have k7 := fun z : WIn (fun w' => Below w1.heap.size w1 w') => (HX1.out.below z.ok).cell 7 _ rfl
  have l0 := fun z : WIn (fun w' => Below w1.heap.size w1 w') => (HL1.out.below z.ok).cell 0 _ rfl
  have l1 := fun z : WIn (fun w' => Below w1.heap.size w1 w') => (HL1.out.below z.ok).cell 1 _ rfl
  have l2 := fun z : WIn (fun w' => Below w1.heap.size w1 w') => (HL1.out.below z.ok).cell 2 _ rfl
  have ne : Nonempty (WIn (fun w' => Below w1.heap.size w1 w')) := ⟨⟨w1, Below.refl _ _⟩⟩
  refine wp_region_ord (C := fun w' => ∃ z : WIn (fun w' => Below w1.heap.size w1 w'), w' = z.w) [(false, 0), (false, 1), (false, 2), (false, 3), (false, 4), (false, 5), (false, 6)] (by kernel_rfl) (by kernel_rfl) ⟨⟨w2.drew, HB2.out.drew⟩, rfl⟩ ?_
  iterate 7 (refine ord_still rfl rfl ?_; go_big_quiet_step (fail); refine wpQuiet_nil ?_)
  refine ord_end ?_
  have HB3 : Hid (Below w1.heap.size w1 w2.drew) := HB2.out.drew
  go_wp2
  go_ret
  exact ⟨rfl, HKO.out _ (bnext HB1.out HB3.out)⟩

theorem rck3 {w0 w : World} {o : Nat → Nat} {j lx r : Nat} {T : St} {W p : Int} {es : List Ent} {sum : Int} {e : Ent} {x : Value} (h : RAsk w0 w o j lx r T W p es sum e x) (h1 : rightB e = true)(h2 : e.w = W) (h3 : T.verify p (textL e) e.g = false) :
    Calls Try.prog 24 #[ptr lx, ptr r, ev e x] w fun q w' => q = .returned (.int .i64 6) ∧ ∃ o', ROrc w0 w' o' r T ∧ Mv [8] w o w' o' := by
  have RT := fun w' (hb : Below w.heap.size w w') => refrightE_any e x w' (h.rd.below hb)
  have HD := fun w' (hb : Below w.heap.size w w') => (show Calls Try.prog 55 #[ptr r, .int .u64 p, ev e x] w' fun q w'' => q = .returned (.bool (rightB e && T.verify p (textL e) e.g)) ∧ Below w'.heap.size w' w'' from by
    obtain ⟨fr, sb, hr, _⟩ := h.orc
    exact rholdsE_any ⟨w0, sb⟩ w' r fr T (hr.below hb) h.fine p e x h.ok (h.rd.below hb))
  have HK := fun w' (hb : Below w.heap.size w w') => (⟨_, h.orc.below hb, Mv.of_below 0 hb⟩ : ∃ o', ROrc w0 w' o' r T ∧ Mv [8] w o w' o')
  rw [h1] at RT
  rw [h1, h3] at HD
  have h2' : (e.w != W) = false := by simpa using h2
  clear h2
  obtain ⟨v, ps, hA⟩ := h.log
  obtain ⟨av, cv', rfl, hcv1, hcv2, _⟩ := hA.row.slice
  have hlen : es.length = ps.length := hA.len
  have hblk := hA.blk
  have hfew := hA.few
  unfold maxLen at hcv2
  obtain ⟨a, cap, hxx⟩ := h.rd.len
  subst hxx
  clear h hA
  obtain ⟨ew, ei, ep, et, eu, en, eb, eg⟩ := e
  unfold ev at *
  dsimp only at *
  have HRT : Hid (∀ w', Below w.heap.size w w' → Calls Try.prog 47 #[.agg #[.int .i64 ew, .int .i64 ei, .int .u64 ep, .int .i64 et, .int .i64 eu, .int .i64 en, .slice a eb.length cap, .int .u64 eg]] w' fun q w'' => q = .returned (.bool true) ∧ Below w'.heap.size w' w'') := RT
  have HHD : Hid (∀ w', Below w.heap.size w w' → Calls Try.prog 55 #[ptr r, .int .u64 p, .agg #[.int .i64 ew, .int .i64 ei, .int .u64 ep, .int .i64 et, .int .i64 eu, .int .i64 en, .slice a eb.length cap, .int .u64 eg]] w' fun q w'' => q = .returned (.bool (true && false)) ∧ Below w'.heap.size w' w'') := HD
  have HKO : Hid (∀ w', Below w.heap.size w w' → ∃ o', ROrc w0 w' o' r T ∧ Mv [8] w o w' o') := HK
  obtain ⟨w1, hw1⟩ : ∃ w1, w1 = w.alloc (.cells #[.int .i64 ew, .int .i64 ei, .int .u64 ep, .int .i64 et, .int .i64 eu, .int .i64 en, .slice a eb.length cap, .int .u64 eg] 47) := ⟨_, rfl⟩
  have HB1 : Hid (Below w.heap.size w w1) := by show Below _ _ _; rw [hw1]; exact balloc (Below.refl _ _) _
  have HX1 : Hid (Blk w1 w.heap.size 47 [.int .i64 ew, .int .i64 ei, .int .u64 ep, .int .i64 et, .int .i64 eu, .int .i64 en, .slice a eb.length cap, .int .u64 eg]) := by show Blk _ _ _ _; rw [hw1]; exact blk_new w [.int .i64 ew, .int .i64 ei, .int .u64 ep, .int .i64 et, .int .i64 eu, .int .i64 en, .slice a eb.length cap, .int .u64 eg] 47
  have HL1 : Hid (Blk w1 lx 42 [.int .i64 W, .int .u64 p, .slice av ps.length cv']) := (show Blk _ _ _ _ from hblk.below HB1.out)
  clear RT HK hblk HD
  go_enter Try.func24, Try.ntmps24
  go_upto_region 1 with fail
  rw [← hw1]
  obtain ⟨n, hn⟩ : ∃ n, n = w.heap.size := ⟨_, rfl⟩
  rw [← hn] at HX1 ⊢
  have HNN : Hid (n = w.heap.size) := hn
  clear hw1 hn
  have c0 := HX1.out.cell 0 _ rfl; have c1 := HX1.out.cell 1 _ rfl; have c2 := HX1.out.cell 2 _ rfl; have c3 := HX1.out.cell 3 _ rfl; have c4 := HX1.out.cell 4 _ rfl; have c5 := HX1.out.cell 5 _ rfl; have c6 := HX1.out.cell 6 _ rfl; have c7 := HX1.out.cell 7 _ rfl
  go_upto_region 3 with (go_at_call 47; go_must (refine (HRT.out w1 HB1.out).mono ?_; rintro q w2 ⟨rfl, hb2⟩; have HB2 : Hid (Below w1.heap.size w1 w2) := hb2; clear hb2))
  clear c0 c1 c2 c3 c4 c5 c6 c7
  have k0 := fun z : WIn (fun w' => Below w1.heap.size w1 w') => (HX1.out.below z.ok).cell 0 _ rfl
  have k1 := fun z : WIn (fun w' => Below w1.heap.size w1 w') => (HX1.out.below z.ok).cell 1 _ rfl
  have k2 := fun z : WIn (fun w' => Below w1.heap.size w1 w') => (HX1.out.below z.ok).cell 2 _ rfl
  have k3 := fun z : WIn (fun w' => Below w1.heap.size w1 w') => (HX1.out.below z.ok).cell 3 _ rfl
  have k4 := fun z : WIn (fun w' => Below w1.heap.size w1 w') => (HX1.out.below z.ok).cell 4 _ rfl
  have k5 := fun z : WIn (fun w' => Below w1.heap.size w1 w') => (HX1.out.below z.ok).cell 5 _ rfl
  have k6 := fun z : WIn (fun w' => Below w1.heap.size w1 w') => (HX1.out.below z.ok).cell 6 _ rfl
  have k7 := fun z : WIn (fun w' => Below w1.heap.size w1 w') => (HX1.out.below z.ok).cell 7 _ rfl
  have l0 := fun z : WIn (fun w' => Below w1.heap.size w1 w') => (HL1.out.below z.ok).cell 0 _ rfl
  have l1 := fun z : WIn (fun w' => Below w1.heap.size w1 w') => (HL1.out.below z.ok).cell 1 _ rfl
  have l2 := fun z : WIn (fun w' => Below w1.heap.size w1 w') => (HL1.out.below z.ok).cell 2 _ rfl
  have ne : Nonempty (WIn (fun w' => Below w1.heap.size w1 w')) := ⟨⟨w1, Below.refl _ _⟩⟩
  refine wp_region_ord (C := fun w' => ∃ z : WIn (fun w' => Below w1.heap.size w1 w'), w' = z.w) [(false, 0), (false, 1), (false, 2), (false, 3), (false, 4), (false, 5), (false, 6)] (by kernel_rfl) (by kernel_rfl) ⟨⟨w2.drew, HB2.out.drew⟩, rfl⟩ ?_
  iterate 7 (refine ord_still rfl rfl ?_; go_big_quiet_step (fail); refine wpQuiet_nil ?_)
  refine ord_end ?_
  have HB3 : Hid (Below w1.heap.size w1 w2.drew) := HB2.out.drew
  go_upto_region 5 with fail
  refine wp_region_ord (C := fun w' => ∃ z : WIn (fun w' => Below w1.heap.size w1 w'), w' = z.w) [(false, 0), (false, 1), (false, 2), (false, 3), (false, 4), (false, 5), (true, 6), (false, 7)] (by kernel_rfl) (by kernel_rfl) ⟨⟨w2.drew.drew, HB3.out.drew⟩, rfl⟩ ?_
  iterate 6 (refine ord_still rfl rfl ?_; go_big_quiet_step (fail); refine wpQuiet_nil ?_)
  refine ord_mem rfl rfl ?_
  go_simp
  refine (HHD.out _ (bnext HB1.out HB3.out.drew)).mono ?_
  rintro q w4 ⟨rfl, hb3⟩
  have HB4 : Hid (Below w1.heap.size w1 w4) := bnext HB3.out.drew hb3
  clear hb3
  refine ⟨⟨⟨w4, HB4.out⟩, rfl⟩, ?_⟩
  iterate 1 (refine ord_still rfl rfl ?_; go_big_quiet_step (fail); refine wpQuiet_nil ?_)
  refine ord_end ?_
  go_wp2
  go_ret
  exact ⟨rfl, HKO.out _ (bnext HB1.out HB4.out)⟩
end

section
set_option linter.unusedVariables false
set_option linter.unusedSimpArgs false
set_option synthInstance.maxSize 20000
set_option maxHeartbeats 2000000
set_option maxRecDepth 20000
open Go.RowKit Go.Maps

theorem rck4 {w0 w : World} {o : Nat → Nat} {j lx r : Nat} {T : St} {W p : Int} {es : List Ent} {sum : Int} {e : Ent} {x : Value} (h : RAsk w0 w o j lx r T W p es sum e x) (h1 : rightB e = true)(h2 : e.w = W)(h3 : T.verify p (textL e) e.g = true) {f : Ent} (h4 : es[e.i.toNat]? = some f) (hsm : sameB f e = true) :
    Calls Try.prog 24 #[ptr lx, ptr r, ev e x] w fun q w' => q = .returned (.int .i64 8) ∧ ∃ o', ROrc w0 w' o' r T ∧ Mv [8] w o w' o' := by
  have RT := fun w' (hb : Below w.heap.size w w') => refrightE_any e x w' (h.rd.below hb)
  have HD := fun w' (hb : Below w.heap.size w w') => (show Calls Try.prog 55 #[ptr r, .int .u64 p, ev e x] w' fun q w'' => q = .returned (.bool (rightB e && T.verify p (textL e) e.g)) ∧ Below w'.heap.size w' w'' from by
    obtain ⟨fr, sb, hr, _⟩ := h.orc
    exact rholdsE_any ⟨w0, sb⟩ w' r fr T (hr.below hb) h.fine p e x h.ok (h.rd.below hb))
  have HK := fun w' (hb : Below w.heap.size w w') => (⟨_, h.orc.below hb, Mv.of_below 0 hb⟩ : ∃ o', ROrc w0 w' o' r T ∧ Mv [8] w o w' o')
  rw [h1] at RT
  rw [h1, h3] at HD
  have h2' : (e.w != W) = false := by simpa using h2
  clear h2
  obtain ⟨v, ps, hA⟩ := h.log
  obtain ⟨av, cv', rfl, hcv1, hcv2, _⟩ := hA.row.slice
  have hlen : es.length = ps.length := hA.len
  have hblk := hA.blk
  have hfew := hA.few
  unfold maxLen at hcv2
  have hes := hA.es
  subst hes
  obtain ⟨y, hy⟩ : ∃ y, ps[e.i.toNat]? = some (f, y) := by
    rw [List.getElem?_map] at h4
    cases hq : ps[e.i.toNat]? with
    | none => rw [hq] at h4; cases h4
    | some q => rw [hq] at h4; obtain ⟨f', y⟩ := q; simp at h4; subst h4; exact ⟨y, rfl⟩
  obtain ⟨g, off, hav, hc⟩ := (rowE_c hA.row).at hy
  subst hav
  have hyr := (hA.ents _ (List.mem_of_getElem? hy)).2.1
  have SM := fun w' (hb : Below w.heap.size w w') (hr : Rd w' y f.b) => refsameE_any w' f e y x hr (h.rd.below hb)
  rw [hsm] at SM
  obtain ⟨i, hNI⟩ : ∃ i : Nat, e.i = i := ⟨e.i.toNat, by have := ((rightB_iff e).1 h1).2.1; omega⟩
  have hNI2 : e.i.toNat = i := by omega
  have hlt : i < ps.length := by rw [← hNI2]; exact (List.getElem?_eq_some_iff.1 hy).1
  rw [hNI2] at hc
  clear hy h4 hNI2
  obtain ⟨a, cap, hxx⟩ := h.rd.len
  subst hxx
  clear h hA
  obtain ⟨ew, ei, ep, et, eu, en, eb, eg⟩ := e
  dsimp only at hNI
  subst hNI
  unfold ev at *
  dsimp only at *
  have HRT : Hid (∀ w', Below w.heap.size w w' → Calls Try.prog 47 #[.agg #[.int .i64 ew, .int .i64 (i : Int), .int .u64 ep, .int .i64 et, .int .i64 eu, .int .i64 en, .slice a eb.length cap, .int .u64 eg]] w' fun q w'' => q = .returned (.bool true) ∧ Below w'.heap.size w' w'') := RT
  have HHD : Hid (∀ w', Below w.heap.size w w' → Calls Try.prog 55 #[ptr r, .int .u64 p, .agg #[.int .i64 ew, .int .i64 (i : Int), .int .u64 ep, .int .i64 et, .int .i64 eu, .int .i64 en, .slice a eb.length cap, .int .u64 eg]] w' fun q w'' => q = .returned (.bool (true && true)) ∧ Below w'.heap.size w' w'') := HD
  obtain ⟨fw, fi, fp, ft, fu, fn, fb, fg⟩ := f
  unfold ec at hc
  dsimp only at *
  obtain ⟨ay, cy, hyy⟩ := hyr.len
  subst hyy
  have HSM : Hid (∀ w', Below w.heap.size w w' → Rd w' (.slice ay fb.length cy) fb → Calls Try.prog 21 #[.agg #[.int .i64 fw, .int .i64 fi, .int .u64 fp, .int .i64 ft, .int .i64 fu, .int .i64 fn, .slice ay fb.length cy, .int .u64 fg], .agg #[.int .i64 ew, .int .i64 (i : Int), .int .u64 ep, .int .i64 et, .int .i64 eu, .int .i64 en, .slice a eb.length cap, .int .u64 eg]] w' fun q w'' => q = .returned (.bool true) ∧ Below w'.heap.size w' w'') := SM
  have HYr : Hid (Rd w (.slice ay fb.length cy) fb) := hyr
  have HC : Hid (∀ w', Below w.heap.size w w' → ∀ j u, ([.int .i64 fw, .int .i64 fi, .int .u64 fp, .int .i64 ft, .int .i64 fu, .int .i64 fn, .slice ay fb.length cy, .int .u64 fg] : List Value)[j]? = some u → w'.cell? ⟨g, off + i * 8 + j, none⟩ = some u) := fun w' hb' j u hu => by
    have h1 := hc j u hu
    rw [World.cell?_of_block (hb'.block g (World.block_lt_of_cell? w _ h1))]
    exact h1
  clear hc hyr SM
  have HKO : Hid (∀ w', Below w.heap.size w w' → ∃ o', ROrc w0 w' o' r T ∧ Mv [8] w o w' o') := HK
  obtain ⟨w1, hw1⟩ : ∃ w1, w1 = w.alloc (.cells #[.int .i64 ew, .int .i64 (i : Int), .int .u64 ep, .int .i64 et, .int .i64 eu, .int .i64 en, .slice a eb.length cap, .int .u64 eg] 47) := ⟨_, rfl⟩
  have HB1 : Hid (Below w.heap.size w w1) := by show Below _ _ _; rw [hw1]; exact balloc (Below.refl _ _) _
  have HX1 : Hid (Blk w1 w.heap.size 47 [.int .i64 ew, .int .i64 (i : Int), .int .u64 ep, .int .i64 et, .int .i64 eu, .int .i64 en, .slice a eb.length cap, .int .u64 eg]) := by show Blk _ _ _ _; rw [hw1]; exact blk_new w [.int .i64 ew, .int .i64 (i : Int), .int .u64 ep, .int .i64 et, .int .i64 eu, .int .i64 en, .slice a eb.length cap, .int .u64 eg] 47
  have HL1 : Hid (Blk w1 lx 42 [.int .i64 W, .int .u64 p, .slice (some ⟨g, off, none⟩) ps.length cv']) := (show Blk _ _ _ _ from hblk.below HB1.out)
  clear RT HK hblk HD
  go_enter Try.func24, Try.ntmps24
  go_upto_region 1 with fail
  rw [← hw1]
  obtain ⟨n, hn⟩ : ∃ n, n = w.heap.size := ⟨_, rfl⟩
  rw [← hn] at HX1 ⊢
  have HNN : Hid (n = w.heap.size) := hn
  clear hw1 hn
  have c0 := HX1.out.cell 0 _ rfl; have c1 := HX1.out.cell 1 _ rfl; have c2 := HX1.out.cell 2 _ rfl; have c3 := HX1.out.cell 3 _ rfl; have c4 := HX1.out.cell 4 _ rfl; have c5 := HX1.out.cell 5 _ rfl; have c6 := HX1.out.cell 6 _ rfl; have c7 := HX1.out.cell 7 _ rfl
  go_upto_region 3 with (go_at_call 47; go_must (refine (HRT.out w1 HB1.out).mono ?_; rintro q w2 ⟨rfl, hb2⟩; have HB2 : Hid (Below w1.heap.size w1 w2) := hb2; clear hb2))
  clear c0 c1 c2 c3 c4 c5 c6 c7
  have k0 := fun z : WIn (fun w' => Below w1.heap.size w1 w') => (HX1.out.below z.ok).cell 0 _ rfl
  have k1 := fun z : WIn (fun w' => Below w1.heap.size w1 w') => (HX1.out.below z.ok).cell 1 _ rfl
  have k2 := fun z : WIn (fun w' => Below w1.heap.size w1 w') => (HX1.out.below z.ok).cell 2 _ rfl
  have k3 := fun z : WIn (fun w' => Below w1.heap.size w1 w') => (HX1.out.below z.ok).cell 3 _ rfl
  have k4 := fun z : WIn (fun w' => Below w1.heap.size w1 w') => (HX1.out.below z.ok).cell 4 _ rfl
  have k5 := fun z : WIn (fun w' => Below w1.heap.size w1 w') => (HX1.out.below z.ok).cell 5 _ rfl
  have k6 := fun z : WIn (fun w' => Below w1.heap.size w1 w') => (HX1.out.below z.ok).cell 6 _ rfl
  have k7 := fun z : WIn (fun w' => Below w1.heap.size w1 w') => (HX1.out.below z.ok).cell 7 _ rfl
  have l0 := fun z : WIn (fun w' => Below w1.heap.size w1 w') => (HL1.out.below z.ok).cell 0 _ rfl
  have l1 := fun z : WIn (fun w' => Below w1.heap.size w1 w') => (HL1.out.below z.ok).cell 1 _ rfl
  have l2 := fun z : WIn (fun w' => Below w1.heap.size w1 w') => (HL1.out.below z.ok).cell 2 _ rfl
  have m0 := fun z : WIn (fun w' => Below w1.heap.size w1 w') => HC.out z.w (bnext HB1.out z.ok) 0 _ rfl
  have m1 := fun z : WIn (fun w' => Below w1.heap.size w1 w') => HC.out z.w (bnext HB1.out z.ok) 1 _ rfl
  have m2 := fun z : WIn (fun w' => Below w1.heap.size w1 w') => HC.out z.w (bnext HB1.out z.ok) 2 _ rfl
  have m3 := fun z : WIn (fun w' => Below w1.heap.size w1 w') => HC.out z.w (bnext HB1.out z.ok) 3 _ rfl
  have m4 := fun z : WIn (fun w' => Below w1.heap.size w1 w') => HC.out z.w (bnext HB1.out z.ok) 4 _ rfl
  have m5 := fun z : WIn (fun w' => Below w1.heap.size w1 w') => HC.out z.w (bnext HB1.out z.ok) 5 _ rfl
  have m6 := fun z : WIn (fun w' => Below w1.heap.size w1 w') => HC.out z.w (bnext HB1.out z.ok) 6 _ rfl
  have m7 := fun z : WIn (fun w' => Below w1.heap.size w1 w') => HC.out z.w (bnext HB1.out z.ok) 7 _ rfl
  simp only [Nat.add_zero] at m0
  have ne : Nonempty (WIn (fun w' => Below w1.heap.size w1 w')) := ⟨⟨w1, Below.refl _ _⟩⟩
  refine wp_region_ord (C := fun w' => ∃ z : WIn (fun w' => Below w1.heap.size w1 w'), w' = z.w) [(false, 0), (false, 1), (false, 2), (false, 3), (false, 4), (false, 5), (false, 6)] (by kernel_rfl) (by kernel_rfl) ⟨⟨w2.drew, HB2.out.drew⟩, rfl⟩ ?_
  iterate 7 (refine ord_still rfl rfl ?_; go_big_quiet_step (fail); refine wpQuiet_nil ?_)
  refine ord_end ?_
  have HB3 : Hid (Below w1.heap.size w1 w2.drew) := HB2.out.drew
  go_upto_region 5 with fail
  refine wp_region_ord (C := fun w' => ∃ z : WIn (fun w' => Below w1.heap.size w1 w'), w' = z.w) [(false, 0), (false, 1), (false, 2), (false, 3), (false, 4), (false, 5), (true, 6), (false, 7)] (by kernel_rfl) (by kernel_rfl) ⟨⟨w2.drew.drew, HB3.out.drew⟩, rfl⟩ ?_
  iterate 6 (refine ord_still rfl rfl ?_; go_big_quiet_step (fail); refine wpQuiet_nil ?_)
  refine ord_mem rfl rfl ?_
  go_simp
  refine (HHD.out _ (bnext HB1.out HB3.out.drew)).mono ?_
  rintro q w4 ⟨rfl, hb3⟩
  have HB4 : Hid (Below w1.heap.size w1 w4) := bnext HB3.out.drew hb3
  clear hb3
  refine ⟨⟨⟨w4, HB4.out⟩, rfl⟩, ?_⟩
  iterate 1 (refine ord_still rfl rfl ?_; go_big_quiet_step (fail); refine wpQuiet_nil ?_)
  refine ord_end ?_
  go_upto_region 7 with fail
  refine wp_region_ord (C := fun w' => ∃ z : WIn (fun w' => Below w1.heap.size w1 w'), w' = z.w) [(false, 0), (false, 1), (false, 2), (false, 3), (false, 4), (false, 5), (false, 6), (false, 7)] (by kernel_rfl) (by kernel_rfl) ⟨⟨w4.drew, HB4.out.drew⟩, rfl⟩ ?_
  iterate 8 (refine ord_still rfl rfl ?_; go_big_quiet_step (fail); refine wpQuiet_nil ?_)
  refine ord_end ?_
  have HB5 : Hid (Below w1.heap.size w1 w4.drew) := HB4.out.drew
  go_upto_region 8 with fail
  refine wp_region_ord (C := fun w' => ∃ z : WIn (fun w' => Below w1.heap.size w1 w'), w' = z.w) [(false, 0), (false, 1), (false, 2), (false, 3), (false, 4), (false, 5), (false, 6), (false, 7), (false, 8), (true, 9)] (by kernel_rfl) (by kernel_rfl) ⟨⟨w4.drew.drew, HB5.out.drew⟩, rfl⟩ ?_
  iterate 9 (refine ord_still rfl rfl ?_; go_big_quiet_step (fail); refine wpQuiet_nil ?_)
  refine ord_mem rfl rfl ?_
  go_simp
  refine (HSM.out _ (bnext HB1.out HB5.out.drew) (HYr.out.below (bnext HB1.out HB5.out.drew))).mono ?_
  rintro q w6 ⟨rfl, hb3⟩
  have HB6 : Hid (Below w1.heap.size w1 w6) := bnext HB5.out.drew hb3
  clear hb3
  refine ⟨⟨⟨w6, HB6.out⟩, rfl⟩, ?_⟩
  iterate 0 (refine ord_still rfl rfl ?_; go_big_quiet_step (fail); refine wpQuiet_nil ?_)
  refine ord_end ?_
  go_wp2
  go_ret
  exact ⟨rfl, HKO.out _ (bnext HB1.out HB6.out)⟩
end

section
set_option linter.unusedVariables false
set_option linter.unusedSimpArgs false
set_option synthInstance.maxSize 20000
set_option maxHeartbeats 2000000
set_option maxRecDepth 20000
open Go.RowKit Go.Maps

theorem rck4n {w0 w : World} {o : Nat → Nat} {j lx r : Nat} {T : St} {W p : Int} {es : List Ent} {sum : Int} {e : Ent} {x : Value} (h : RAsk w0 w o j lx r T W p es sum e x) (h1 : rightB e = true)(h2 : e.w = W)(h3 : T.verify p (textL e) e.g = true) {f : Ent} (h4 : es[e.i.toNat]? = some f) (hsm : sameB f e = false) :
    Calls Try.prog 24 #[ptr lx, ptr r, ev e x] w fun q w' => q = .returned (.int .i64 9) ∧ ∃ o', ROrc w0 w' o' r T ∧ Mv [8] w o w' o' := by
  have RT := fun w' (hb : Below w.heap.size w w') => refrightE_any e x w' (h.rd.below hb)
  have HD := fun w' (hb : Below w.heap.size w w') => (show Calls Try.prog 55 #[ptr r, .int .u64 p, ev e x] w' fun q w'' => q = .returned (.bool (rightB e && T.verify p (textL e) e.g)) ∧ Below w'.heap.size w' w'' from by
    obtain ⟨fr, sb, hr, _⟩ := h.orc
    exact rholdsE_any ⟨w0, sb⟩ w' r fr T (hr.below hb) h.fine p e x h.ok (h.rd.below hb))
  have HK := fun w' (hb : Below w.heap.size w w') => (⟨_, h.orc.below hb, Mv.of_below 0 hb⟩ : ∃ o', ROrc w0 w' o' r T ∧ Mv [8] w o w' o')
  rw [h1] at RT
  rw [h1, h3] at HD
  have h2' : (e.w != W) = false := by simpa using h2
  clear h2
  obtain ⟨v, ps, hA⟩ := h.log
  obtain ⟨av, cv', rfl, hcv1, hcv2, _⟩ := hA.row.slice
  have hlen : es.length = ps.length := hA.len
  have hblk := hA.blk
  have hfew := hA.few
  unfold maxLen at hcv2
  have hes := hA.es
  subst hes
  obtain ⟨y, hy⟩ : ∃ y, ps[e.i.toNat]? = some (f, y) := by
    rw [List.getElem?_map] at h4
    cases hq : ps[e.i.toNat]? with
    | none => rw [hq] at h4; cases h4
    | some q => rw [hq] at h4; obtain ⟨f', y⟩ := q; simp at h4; subst h4; exact ⟨y, rfl⟩
  obtain ⟨g, off, hav, hc⟩ := (rowE_c hA.row).at hy
  subst hav
  have hyr := (hA.ents _ (List.mem_of_getElem? hy)).2.1
  have SM := fun w' (hb : Below w.heap.size w w') (hr : Rd w' y f.b) => refsameE_any w' f e y x hr (h.rd.below hb)
  rw [hsm] at SM
  obtain ⟨i, hNI⟩ : ∃ i : Nat, e.i = i := ⟨e.i.toNat, by have := ((rightB_iff e).1 h1).2.1; omega⟩
  have hNI2 : e.i.toNat = i := by omega
  have hlt : i < ps.length := by rw [← hNI2]; exact (List.getElem?_eq_some_iff.1 hy).1
  rw [hNI2] at hc
  clear hy h4 hNI2
  obtain ⟨a, cap, hxx⟩ := h.rd.len
  subst hxx
  clear h hA
  obtain ⟨ew, ei, ep, et, eu, en, eb, eg⟩ := e
  dsimp only at hNI
  subst hNI
  unfold ev at *
  dsimp only at *
  have HRT : Hid (∀ w', Below w.heap.size w w' → Calls Try.prog 47 #[.agg #[.int .i64 ew, .int .i64 (i : Int), .int .u64 ep, .int .i64 et, .int .i64 eu, .int .i64 en, .slice a eb.length cap, .int .u64 eg]] w' fun q w'' => q = .returned (.bool true) ∧ Below w'.heap.size w' w'') := RT
  have HHD : Hid (∀ w', Below w.heap.size w w' → Calls Try.prog 55 #[ptr r, .int .u64 p, .agg #[.int .i64 ew, .int .i64 (i : Int), .int .u64 ep, .int .i64 et, .int .i64 eu, .int .i64 en, .slice a eb.length cap, .int .u64 eg]] w' fun q w'' => q = .returned (.bool (true && true)) ∧ Below w'.heap.size w' w'') := HD
  obtain ⟨fw, fi, fp, ft, fu, fn, fb, fg⟩ := f
  unfold ec at hc
  dsimp only at *
  obtain ⟨ay, cy, hyy⟩ := hyr.len
  subst hyy
  have HSM : Hid (∀ w', Below w.heap.size w w' → Rd w' (.slice ay fb.length cy) fb → Calls Try.prog 21 #[.agg #[.int .i64 fw, .int .i64 fi, .int .u64 fp, .int .i64 ft, .int .i64 fu, .int .i64 fn, .slice ay fb.length cy, .int .u64 fg], .agg #[.int .i64 ew, .int .i64 (i : Int), .int .u64 ep, .int .i64 et, .int .i64 eu, .int .i64 en, .slice a eb.length cap, .int .u64 eg]] w' fun q w'' => q = .returned (.bool false) ∧ Below w'.heap.size w' w'') := SM
  have HYr : Hid (Rd w (.slice ay fb.length cy) fb) := hyr
  have HC : Hid (∀ w', Below w.heap.size w w' → ∀ j u, ([.int .i64 fw, .int .i64 fi, .int .u64 fp, .int .i64 ft, .int .i64 fu, .int .i64 fn, .slice ay fb.length cy, .int .u64 fg] : List Value)[j]? = some u → w'.cell? ⟨g, off + i * 8 + j, none⟩ = some u) := fun w' hb' j u hu => by
    have h1 := hc j u hu
    rw [World.cell?_of_block (hb'.block g (World.block_lt_of_cell? w _ h1))]
    exact h1
  clear hc hyr SM
  have HKO : Hid (∀ w', Below w.heap.size w w' → ∃ o', ROrc w0 w' o' r T ∧ Mv [8] w o w' o') := HK
  obtain ⟨w1, hw1⟩ : ∃ w1, w1 = w.alloc (.cells #[.int .i64 ew, .int .i64 (i : Int), .int .u64 ep, .int .i64 et, .int .i64 eu, .int .i64 en, .slice a eb.length cap, .int .u64 eg] 47) := ⟨_, rfl⟩
  have HB1 : Hid (Below w.heap.size w w1) := by show Below _ _ _; rw [hw1]; exact balloc (Below.refl _ _) _
  have HX1 : Hid (Blk w1 w.heap.size 47 [.int .i64 ew, .int .i64 (i : Int), .int .u64 ep, .int .i64 et, .int .i64 eu, .int .i64 en, .slice a eb.length cap, .int .u64 eg]) := by show Blk _ _ _ _; rw [hw1]; exact blk_new w [.int .i64 ew, .int .i64 (i : Int), .int .u64 ep, .int .i64 et, .int .i64 eu, .int .i64 en, .slice a eb.length cap, .int .u64 eg] 47
  have HL1 : Hid (Blk w1 lx 42 [.int .i64 W, .int .u64 p, .slice (some ⟨g, off, none⟩) ps.length cv']) := (show Blk _ _ _ _ from hblk.below HB1.out)
  clear RT HK hblk HD
  go_enter Try.func24, Try.ntmps24
  go_upto_region 1 with fail
  rw [← hw1]
  obtain ⟨n, hn⟩ : ∃ n, n = w.heap.size := ⟨_, rfl⟩
  rw [← hn] at HX1 ⊢
  have HNN : Hid (n = w.heap.size) := hn
  clear hw1 hn
  have c0 := HX1.out.cell 0 _ rfl; have c1 := HX1.out.cell 1 _ rfl; have c2 := HX1.out.cell 2 _ rfl; have c3 := HX1.out.cell 3 _ rfl; have c4 := HX1.out.cell 4 _ rfl; have c5 := HX1.out.cell 5 _ rfl; have c6 := HX1.out.cell 6 _ rfl; have c7 := HX1.out.cell 7 _ rfl
  go_upto_region 3 with (go_at_call 47; go_must (refine (HRT.out w1 HB1.out).mono ?_; rintro q w2 ⟨rfl, hb2⟩; have HB2 : Hid (Below w1.heap.size w1 w2) := hb2; clear hb2))
  clear c0 c1 c2 c3 c4 c5 c6 c7
  have k0 := fun z : WIn (fun w' => Below w1.heap.size w1 w') => (HX1.out.below z.ok).cell 0 _ rfl
  have k1 := fun z : WIn (fun w' => Below w1.heap.size w1 w') => (HX1.out.below z.ok).cell 1 _ rfl
  have k2 := fun z : WIn (fun w' => Below w1.heap.size w1 w') => (HX1.out.below z.ok).cell 2 _ rfl
  have k3 := fun z : WIn (fun w' => Below w1.heap.size w1 w') => (HX1.out.below z.ok).cell 3 _ rfl
  have k4 := fun z : WIn (fun w' => Below w1.heap.size w1 w') => (HX1.out.below z.ok).cell 4 _ rfl
  have k5 := fun z : WIn (fun w' => Below w1.heap.size w1 w') => (HX1.out.below z.ok).cell 5 _ rfl
  have k6 := fun z : WIn (fun w' => Below w1.heap.size w1 w') => (HX1.out.below z.ok).cell 6 _ rfl
  have k7 := fun z : WIn (fun w' => Below w1.heap.size w1 w') => (HX1.out.below z.ok).cell 7 _ rfl
  have l0 := fun z : WIn (fun w' => Below w1.heap.size w1 w') => (HL1.out.below z.ok).cell 0 _ rfl
  have l1 := fun z : WIn (fun w' => Below w1.heap.size w1 w') => (HL1.out.below z.ok).cell 1 _ rfl
  have l2 := fun z : WIn (fun w' => Below w1.heap.size w1 w') => (HL1.out.below z.ok).cell 2 _ rfl
  have m0 := fun z : WIn (fun w' => Below w1.heap.size w1 w') => HC.out z.w (bnext HB1.out z.ok) 0 _ rfl
  have m1 := fun z : WIn (fun w' => Below w1.heap.size w1 w') => HC.out z.w (bnext HB1.out z.ok) 1 _ rfl
  have m2 := fun z : WIn (fun w' => Below w1.heap.size w1 w') => HC.out z.w (bnext HB1.out z.ok) 2 _ rfl
  have m3 := fun z : WIn (fun w' => Below w1.heap.size w1 w') => HC.out z.w (bnext HB1.out z.ok) 3 _ rfl
  have m4 := fun z : WIn (fun w' => Below w1.heap.size w1 w') => HC.out z.w (bnext HB1.out z.ok) 4 _ rfl
  have m5 := fun z : WIn (fun w' => Below w1.heap.size w1 w') => HC.out z.w (bnext HB1.out z.ok) 5 _ rfl
  have m6 := fun z : WIn (fun w' => Below w1.heap.size w1 w') => HC.out z.w (bnext HB1.out z.ok) 6 _ rfl
  have m7 := fun z : WIn (fun w' => Below w1.heap.size w1 w') => HC.out z.w (bnext HB1.out z.ok) 7 _ rfl
  simp only [Nat.add_zero] at m0
  have ne : Nonempty (WIn (fun w' => Below w1.heap.size w1 w')) := ⟨⟨w1, Below.refl _ _⟩⟩
  refine wp_region_ord (C := fun w' => ∃ z : WIn (fun w' => Below w1.heap.size w1 w'), w' = z.w) [(false, 0), (false, 1), (false, 2), (false, 3), (false, 4), (false, 5), (false, 6)] (by kernel_rfl) (by kernel_rfl) ⟨⟨w2.drew, HB2.out.drew⟩, rfl⟩ ?_
  iterate 7 (refine ord_still rfl rfl ?_; go_big_quiet_step (fail); refine wpQuiet_nil ?_)
  refine ord_end ?_
  have HB3 : Hid (Below w1.heap.size w1 w2.drew) := HB2.out.drew
  go_upto_region 5 with fail
  refine wp_region_ord (C := fun w' => ∃ z : WIn (fun w' => Below w1.heap.size w1 w'), w' = z.w) [(false, 0), (false, 1), (false, 2), (false, 3), (false, 4), (false, 5), (true, 6), (false, 7)] (by kernel_rfl) (by kernel_rfl) ⟨⟨w2.drew.drew, HB3.out.drew⟩, rfl⟩ ?_
  iterate 6 (refine ord_still rfl rfl ?_; go_big_quiet_step (fail); refine wpQuiet_nil ?_)
  refine ord_mem rfl rfl ?_
  go_simp
  refine (HHD.out _ (bnext HB1.out HB3.out.drew)).mono ?_
  rintro q w4 ⟨rfl, hb3⟩
  have HB4 : Hid (Below w1.heap.size w1 w4) := bnext HB3.out.drew hb3
  clear hb3
  refine ⟨⟨⟨w4, HB4.out⟩, rfl⟩, ?_⟩
  iterate 1 (refine ord_still rfl rfl ?_; go_big_quiet_step (fail); refine wpQuiet_nil ?_)
  refine ord_end ?_
  go_upto_region 7 with fail
  refine wp_region_ord (C := fun w' => ∃ z : WIn (fun w' => Below w1.heap.size w1 w'), w' = z.w) [(false, 0), (false, 1), (false, 2), (false, 3), (false, 4), (false, 5), (false, 6), (false, 7)] (by kernel_rfl) (by kernel_rfl) ⟨⟨w4.drew, HB4.out.drew⟩, rfl⟩ ?_
  iterate 8 (refine ord_still rfl rfl ?_; go_big_quiet_step (fail); refine wpQuiet_nil ?_)
  refine ord_end ?_
  have HB5 : Hid (Below w1.heap.size w1 w4.drew) := HB4.out.drew
  go_upto_region 8 with fail
  refine wp_region_ord (C := fun w' => ∃ z : WIn (fun w' => Below w1.heap.size w1 w'), w' = z.w) [(false, 0), (false, 1), (false, 2), (false, 3), (false, 4), (false, 5), (false, 6), (false, 7), (false, 8), (true, 9)] (by kernel_rfl) (by kernel_rfl) ⟨⟨w4.drew.drew, HB5.out.drew⟩, rfl⟩ ?_
  iterate 9 (refine ord_still rfl rfl ?_; go_big_quiet_step (fail); refine wpQuiet_nil ?_)
  refine ord_mem rfl rfl ?_
  go_simp
  refine (HSM.out _ (bnext HB1.out HB5.out.drew) (HYr.out.below (bnext HB1.out HB5.out.drew))).mono ?_
  rintro q w6 ⟨rfl, hb3⟩
  have HB6 : Hid (Below w1.heap.size w1 w6) := bnext HB5.out.drew hb3
  clear hb3
  refine ⟨⟨⟨w6, HB6.out⟩, rfl⟩, ?_⟩
  iterate 0 (refine ord_still rfl rfl ?_; go_big_quiet_step (fail); refine wpQuiet_nil ?_)
  refine ord_end ?_
  go_wp2
  go_ret
  exact ⟨rfl, HKO.out _ (bnext HB1.out HB6.out)⟩
end

section
set_option linter.unusedVariables false
set_option linter.unusedSimpArgs false
set_option synthInstance.maxSize 20000
set_option maxHeartbeats 2000000
set_option maxRecDepth 20000
open Go.RowKit Go.Maps

theorem rck5 {w0 w : World} {o : Nat → Nat} {j lx r : Nat} {T : St} {W p : Int} {es : List Ent} {sum : Int} {e : Ent} {x : Value} (h : RAsk w0 w o j lx r T W p es sum e x) (h1 : rightB e = true)(h2 : e.w = W)(h3 : T.verify p (textL e) e.g = true) (h4 : (es.length : Int) < e.i) :
    Calls Try.prog 24 #[ptr lx, ptr r, ev e x] w fun q w' => q = .returned (.int .i64 7) ∧ ∃ o', ROrc w0 w' o' r T ∧ Mv [8] w o w' o' := by
  have RT := fun w' (hb : Below w.heap.size w w') => refrightE_any e x w' (h.rd.below hb)
  have HD := fun w' (hb : Below w.heap.size w w') => (show Calls Try.prog 55 #[ptr r, .int .u64 p, ev e x] w' fun q w'' => q = .returned (.bool (rightB e && T.verify p (textL e) e.g)) ∧ Below w'.heap.size w' w'' from by
    obtain ⟨fr, sb, hr, _⟩ := h.orc
    exact rholdsE_any ⟨w0, sb⟩ w' r fr T (hr.below hb) h.fine p e x h.ok (h.rd.below hb))
  have HK := fun w' (hb : Below w.heap.size w w') => (⟨_, h.orc.below hb, Mv.of_below 0 hb⟩ : ∃ o', ROrc w0 w' o' r T ∧ Mv [8] w o w' o')
  rw [h1] at RT
  rw [h1, h3] at HD
  have h2' : (e.w != W) = false := by simpa using h2
  clear h2
  obtain ⟨v, ps, hA⟩ := h.log
  obtain ⟨av, cv', rfl, hcv1, hcv2, _⟩ := hA.row.slice
  have hlen : es.length = ps.length := hA.len
  have hblk := hA.blk
  have hfew := hA.few
  unfold maxLen at hcv2
  rw [hlen] at h4
  have h5 : ¬ e.i < (ps.length : Int) := by omega
  obtain ⟨a, cap, hxx⟩ := h.rd.len
  subst hxx
  clear h hA
  obtain ⟨ew, ei, ep, et, eu, en, eb, eg⟩ := e
  unfold ev at *
  dsimp only at *
  have HRT : Hid (∀ w', Below w.heap.size w w' → Calls Try.prog 47 #[.agg #[.int .i64 ew, .int .i64 ei, .int .u64 ep, .int .i64 et, .int .i64 eu, .int .i64 en, .slice a eb.length cap, .int .u64 eg]] w' fun q w'' => q = .returned (.bool true) ∧ Below w'.heap.size w' w'') := RT
  have HHD : Hid (∀ w', Below w.heap.size w w' → Calls Try.prog 55 #[ptr r, .int .u64 p, .agg #[.int .i64 ew, .int .i64 ei, .int .u64 ep, .int .i64 et, .int .i64 eu, .int .i64 en, .slice a eb.length cap, .int .u64 eg]] w' fun q w'' => q = .returned (.bool (true && true)) ∧ Below w'.heap.size w' w'') := HD
  have HKO : Hid (∀ w', Below w.heap.size w w' → ∃ o', ROrc w0 w' o' r T ∧ Mv [8] w o w' o') := HK
  obtain ⟨w1, hw1⟩ : ∃ w1, w1 = w.alloc (.cells #[.int .i64 ew, .int .i64 ei, .int .u64 ep, .int .i64 et, .int .i64 eu, .int .i64 en, .slice a eb.length cap, .int .u64 eg] 47) := ⟨_, rfl⟩
  have HB1 : Hid (Below w.heap.size w w1) := by show Below _ _ _; rw [hw1]; exact balloc (Below.refl _ _) _
  have HX1 : Hid (Blk w1 w.heap.size 47 [.int .i64 ew, .int .i64 ei, .int .u64 ep, .int .i64 et, .int .i64 eu, .int .i64 en, .slice a eb.length cap, .int .u64 eg]) := by show Blk _ _ _ _; rw [hw1]; exact blk_new w [.int .i64 ew, .int .i64 ei, .int .u64 ep, .int .i64 et, .int .i64 eu, .int .i64 en, .slice a eb.length cap, .int .u64 eg] 47
  have HL1 : Hid (Blk w1 lx 42 [.int .i64 W, .int .u64 p, .slice av ps.length cv']) := (show Blk _ _ _ _ from hblk.below HB1.out)
  clear RT HK hblk HD
  go_enter Try.func24, Try.ntmps24
  go_upto_region 1 with fail
  rw [← hw1]
  obtain ⟨n, hn⟩ : ∃ n, n = w.heap.size := ⟨_, rfl⟩
  rw [← hn] at HX1 ⊢
  have HNN : Hid (n = w.heap.size) := hn
  clear hw1 hn
  have c0 := HX1.out.cell 0 _ rfl; have c1 := HX1.out.cell 1 _ rfl; have c2 := HX1.out.cell 2 _ rfl; have c3 := HX1.out.cell 3 _ rfl; have c4 := HX1.out.cell 4 _ rfl; have c5 := HX1.out.cell 5 _ rfl; have c6 := HX1.out.cell 6 _ rfl; have c7 := HX1.out.cell 7 _ rfl
  go_upto_region 3 with (go_at_call 47; go_must (refine (HRT.out w1 HB1.out).mono ?_; rintro q w2 ⟨rfl, hb2⟩; have HB2 : Hid (Below w1.heap.size w1 w2) := hb2; clear hb2))
  clear c0 c1 c2 c3 c4 c5 c6 c7
  have k0 := fun z : WIn (fun w' => Below w1.heap.size w1 w') => (HX1.out.below z.ok).cell 0 _ rfl
  have k1 := fun z : WIn (fun w' => Below w1.heap.size w1 w') => (HX1.out.below z.ok).cell 1 _ rfl
  have k2 := fun z : WIn (fun w' => Below w1.heap.size w1 w') => (HX1.out.below z.ok).cell 2 _ rfl
  have k3 := fun z : WIn (fun w' => Below w1.heap.size w1 w') => (HX1.out.below z.ok).cell 3 _ rfl
  have k4 := fun z : WIn (fun w' => Below w1.heap.size w1 w') => (HX1.out.below z.ok).cell 4 _ rfl
  have k5 := fun z : WIn (fun w' => Below w1.heap.size w1 w') => (HX1.out.below z.ok).cell 5 _ rfl
  have k6 := fun z : WIn (fun w' => Below w1.heap.size w1 w') => (HX1.out.below z.ok).cell 6 _ rfl
  have k7 := fun z : WIn (fun w' => Below w1.heap.size w1 w') => (HX1.out.below z.ok).cell 7 _ rfl
  have l0 := fun z : WIn (fun w' => Below w1.heap.size w1 w') => (HL1.out.below z.ok).cell 0 _ rfl
  have l1 := fun z : WIn (fun w' => Below w1.heap.size w1 w') => (HL1.out.below z.ok).cell 1 _ rfl
  have l2 := fun z : WIn (fun w' => Below w1.heap.size w1 w') => (HL1.out.below z.ok).cell 2 _ rfl
  have ne : Nonempty (WIn (fun w' => Below w1.heap.size w1 w')) := ⟨⟨w1, Below.refl _ _⟩⟩
  refine wp_region_ord (C := fun w' => ∃ z : WIn (fun w' => Below w1.heap.size w1 w'), w' = z.w) [(false, 0), (false, 1), (false, 2), (false, 3), (false, 4), (false, 5), (false, 6)] (by kernel_rfl) (by kernel_rfl) ⟨⟨w2.drew, HB2.out.drew⟩, rfl⟩ ?_
  iterate 7 (refine ord_still rfl rfl ?_; go_big_quiet_step (fail); refine wpQuiet_nil ?_)
  refine ord_end ?_
  have HB3 : Hid (Below w1.heap.size w1 w2.drew) := HB2.out.drew
  go_upto_region 5 with fail
  refine wp_region_ord (C := fun w' => ∃ z : WIn (fun w' => Below w1.heap.size w1 w'), w' = z.w) [(false, 0), (false, 1), (false, 2), (false, 3), (false, 4), (false, 5), (true, 6), (false, 7)] (by kernel_rfl) (by kernel_rfl) ⟨⟨w2.drew.drew, HB3.out.drew⟩, rfl⟩ ?_
  iterate 6 (refine ord_still rfl rfl ?_; go_big_quiet_step (fail); refine wpQuiet_nil ?_)
  refine ord_mem rfl rfl ?_
  go_simp
  refine (HHD.out _ (bnext HB1.out HB3.out.drew)).mono ?_
  rintro q w4 ⟨rfl, hb3⟩
  have HB4 : Hid (Below w1.heap.size w1 w4) := bnext HB3.out.drew hb3
  clear hb3
  refine ⟨⟨⟨w4, HB4.out⟩, rfl⟩, ?_⟩
  iterate 1 (refine ord_still rfl rfl ?_; go_big_quiet_step (fail); refine wpQuiet_nil ?_)
  refine ord_end ?_
  go_upto_region 7 with fail
  refine wp_region_ord (C := fun w' => ∃ z : WIn (fun w' => Below w1.heap.size w1 w'), w' = z.w) [(false, 0), (false, 1), (false, 2), (false, 3), (false, 4), (false, 5), (false, 6), (false, 7)] (by kernel_rfl) (by kernel_rfl) ⟨⟨w4.drew, HB4.out.drew⟩, rfl⟩ ?_
  iterate 8 (refine ord_still rfl rfl ?_; go_big_quiet_step (fail); refine wpQuiet_nil ?_)
  refine ord_end ?_
  have HB5 : Hid (Below w1.heap.size w1 w4.drew) := HB4.out.drew
  go_upto_region 11 with fail
  refine wp_region_ord (C := fun w' => ∃ z : WIn (fun w' => Below w1.heap.size w1 w'), w' = z.w) [(false, 0), (false, 1), (false, 2), (false, 3), (false, 4), (false, 5), (false, 6), (false, 7)] (by kernel_rfl) (by kernel_rfl) ⟨⟨w4.drew.drew, HB5.out.drew⟩, rfl⟩ ?_
  iterate 8 (refine ord_still rfl rfl ?_; go_big_quiet_step (fail); refine wpQuiet_nil ?_)
  refine ord_end ?_
  have HB6 : Hid (Below w1.heap.size w1 w4.drew.drew) := HB5.out.drew
  go_wp2
  go_ret
  exact ⟨rfl, HKO.out _ (bnext HB1.out HB6.out)⟩

theorem rck6 {w0 w : World} {o : Nat → Nat} {j lx r : Nat} {T : St} {W p : Int} {es : List Ent} {sum : Int} {e : Ent} {x : Value} (h : RAsk w0 w o j lx r T W p es sum e x) (h1 : rightB e = true)(h2 : e.w = W)(h3 : T.verify p (textL e) e.g = true) (h4 : e.i = es.length) (h5 : e.p ≠ sum) :
    Calls Try.prog 24 #[ptr lx, ptr r, ev e x] w fun q w' => q = .returned (.int .i64 5) ∧ ∃ o', ROrc w0 w' o' r T ∧ Mv [8] w o w' o' := by
  have RT := fun w' (hb : Below w.heap.size w w') => refrightE_any e x w' (h.rd.below hb)
  have HD := fun w' (hb : Below w.heap.size w w') => (show Calls Try.prog 55 #[ptr r, .int .u64 p, ev e x] w' fun q w'' => q = .returned (.bool (rightB e && T.verify p (textL e) e.g)) ∧ Below w'.heap.size w' w'' from by
    obtain ⟨fr, sb, hr, _⟩ := h.orc
    exact rholdsE_any ⟨w0, sb⟩ w' r fr T (hr.below hb) h.fine p e x h.ok (h.rd.below hb))
  have HE := fun w' (hb : Below w.heap.size w w') => (show Calls Try.prog 41 #[ptr lx, ptr r] w' fun q w'' => q = .returned (.agg #[.int .i64 W, .int .i64 (es.length : Int), .int .u64 sum]) ∧ ∃ o', ROrc w0 w'' o' r T ∧ Mv [8] w' (newTo o w 0) w'' o' from by
    have := rhead_any (h.log.below hb) (h.orc.below hb) h.j8 h.last h.few
    rw [h.head] at this
    exact this)
  have HK := fun w' (hb : Below w.heap.size w w') => (⟨_, h.orc.below hb, Mv.of_below 0 hb⟩ : ∃ o', ROrc w0 w' o' r T ∧ Mv [8] w o w' o')
  rw [h1] at RT
  rw [h1, h3] at HD
  have h2' : (e.w != W) = false := by simpa using h2
  clear h2
  obtain ⟨v, ps, hA⟩ := h.log
  obtain ⟨av, cv', rfl, hcv1, hcv2, _⟩ := hA.row.slice
  have hlen : es.length = ps.length := hA.len
  have hblk := hA.blk
  have hfew := hA.few
  unfold maxLen at hcv2
  rw [hlen] at h4
  have h4a : ¬ e.i < (ps.length : Int) := by omega
  have h4b : ¬ (ps.length : Int) < e.i := by omega
  clear h4
  have h5' : (e.p != sum) = true := by simpa using h5
  clear h5
  obtain ⟨a, cap, hxx⟩ := h.rd.len
  subst hxx
  clear h hA
  obtain ⟨ew, ei, ep, et, eu, en, eb, eg⟩ := e
  unfold ev at *
  dsimp only at *
  have HRT : Hid (∀ w', Below w.heap.size w w' → Calls Try.prog 47 #[.agg #[.int .i64 ew, .int .i64 ei, .int .u64 ep, .int .i64 et, .int .i64 eu, .int .i64 en, .slice a eb.length cap, .int .u64 eg]] w' fun q w'' => q = .returned (.bool true) ∧ Below w'.heap.size w' w'') := RT
  have HHD : Hid (∀ w', Below w.heap.size w w' → Calls Try.prog 55 #[ptr r, .int .u64 p, .agg #[.int .i64 ew, .int .i64 ei, .int .u64 ep, .int .i64 et, .int .i64 eu, .int .i64 en, .slice a eb.length cap, .int .u64 eg]] w' fun q w'' => q = .returned (.bool (true && true)) ∧ Below w'.heap.size w' w'') := HD
  rw [hlen] at HE
  have HHE : Hid (∀ w', Below w.heap.size w w' → Calls Try.prog 41 #[ptr lx, ptr r] w' fun q w'' => q = .returned (.agg #[.int .i64 W, .int .i64 (ps.length : Int), .int .u64 sum]) ∧ ∃ o', ROrc w0 w'' o' r T ∧ Mv [8] w' (newTo o w 0) w'' o') := HE
  have HKO : Hid (∀ w', Below w.heap.size w w' → ∃ o', ROrc w0 w' o' r T ∧ Mv [8] w o w' o') := HK
  obtain ⟨w1, hw1⟩ : ∃ w1, w1 = w.alloc (.cells #[.int .i64 ew, .int .i64 ei, .int .u64 ep, .int .i64 et, .int .i64 eu, .int .i64 en, .slice a eb.length cap, .int .u64 eg] 47) := ⟨_, rfl⟩
  have HB1 : Hid (Below w.heap.size w w1) := by show Below _ _ _; rw [hw1]; exact balloc (Below.refl _ _) _
  have HX1 : Hid (Blk w1 w.heap.size 47 [.int .i64 ew, .int .i64 ei, .int .u64 ep, .int .i64 et, .int .i64 eu, .int .i64 en, .slice a eb.length cap, .int .u64 eg]) := by show Blk _ _ _ _; rw [hw1]; exact blk_new w [.int .i64 ew, .int .i64 ei, .int .u64 ep, .int .i64 et, .int .i64 eu, .int .i64 en, .slice a eb.length cap, .int .u64 eg] 47
  have HL1 : Hid (Blk w1 lx 42 [.int .i64 W, .int .u64 p, .slice av ps.length cv']) := (show Blk _ _ _ _ from hblk.below HB1.out)
  clear RT HK hblk HD HE
  go_enter Try.func24, Try.ntmps24
  go_upto_region 1 with fail
  rw [← hw1]
  obtain ⟨n, hn⟩ : ∃ n, n = w.heap.size := ⟨_, rfl⟩
  rw [← hn] at HX1 ⊢
  have HNN : Hid (n = w.heap.size) := hn
  clear hw1 hn
  have c0 := HX1.out.cell 0 _ rfl; have c1 := HX1.out.cell 1 _ rfl; have c2 := HX1.out.cell 2 _ rfl; have c3 := HX1.out.cell 3 _ rfl; have c4 := HX1.out.cell 4 _ rfl; have c5 := HX1.out.cell 5 _ rfl; have c6 := HX1.out.cell 6 _ rfl; have c7 := HX1.out.cell 7 _ rfl
  go_upto_region 3 with (go_at_call 47; go_must (refine (HRT.out w1 HB1.out).mono ?_; rintro q w2 ⟨rfl, hb2⟩; have HB2 : Hid (Below w1.heap.size w1 w2) := hb2; clear hb2))
  clear c0 c1 c2 c3 c4 c5 c6 c7
  have k0 := fun z : WIn (fun w' => Below w1.heap.size w1 w') => (HX1.out.below z.ok).cell 0 _ rfl
  have k1 := fun z : WIn (fun w' => Below w1.heap.size w1 w') => (HX1.out.below z.ok).cell 1 _ rfl
  have k2 := fun z : WIn (fun w' => Below w1.heap.size w1 w') => (HX1.out.below z.ok).cell 2 _ rfl
  have k3 := fun z : WIn (fun w' => Below w1.heap.size w1 w') => (HX1.out.below z.ok).cell 3 _ rfl
  have k4 := fun z : WIn (fun w' => Below w1.heap.size w1 w') => (HX1.out.below z.ok).cell 4 _ rfl
  have k5 := fun z : WIn (fun w' => Below w1.heap.size w1 w') => (HX1.out.below z.ok).cell 5 _ rfl
  have k6 := fun z : WIn (fun w' => Below w1.heap.size w1 w') => (HX1.out.below z.ok).cell 6 _ rfl
  have k7 := fun z : WIn (fun w' => Below w1.heap.size w1 w') => (HX1.out.below z.ok).cell 7 _ rfl
  have l0 := fun z : WIn (fun w' => Below w1.heap.size w1 w') => (HL1.out.below z.ok).cell 0 _ rfl
  have l1 := fun z : WIn (fun w' => Below w1.heap.size w1 w') => (HL1.out.below z.ok).cell 1 _ rfl
  have l2 := fun z : WIn (fun w' => Below w1.heap.size w1 w') => (HL1.out.below z.ok).cell 2 _ rfl
  have ne : Nonempty (WIn (fun w' => Below w1.heap.size w1 w')) := ⟨⟨w1, Below.refl _ _⟩⟩
  refine wp_region_ord (C := fun w' => ∃ z : WIn (fun w' => Below w1.heap.size w1 w'), w' = z.w) [(false, 0), (false, 1), (false, 2), (false, 3), (false, 4), (false, 5), (false, 6)] (by kernel_rfl) (by kernel_rfl) ⟨⟨w2.drew, HB2.out.drew⟩, rfl⟩ ?_
  iterate 7 (refine ord_still rfl rfl ?_; go_big_quiet_step (fail); refine wpQuiet_nil ?_)
  refine ord_end ?_
  have HB3 : Hid (Below w1.heap.size w1 w2.drew) := HB2.out.drew
  go_upto_region 5 with fail
  refine wp_region_ord (C := fun w' => ∃ z : WIn (fun w' => Below w1.heap.size w1 w'), w' = z.w) [(false, 0), (false, 1), (false, 2), (false, 3), (false, 4), (false, 5), (true, 6), (false, 7)] (by kernel_rfl) (by kernel_rfl) ⟨⟨w2.drew.drew, HB3.out.drew⟩, rfl⟩ ?_
  iterate 6 (refine ord_still rfl rfl ?_; go_big_quiet_step (fail); refine wpQuiet_nil ?_)
  refine ord_mem rfl rfl ?_
  go_simp
  refine (HHD.out _ (bnext HB1.out HB3.out.drew)).mono ?_
  rintro q w4 ⟨rfl, hb3⟩
  have HB4 : Hid (Below w1.heap.size w1 w4) := bnext HB3.out.drew hb3
  clear hb3
  refine ⟨⟨⟨w4, HB4.out⟩, rfl⟩, ?_⟩
  iterate 1 (refine ord_still rfl rfl ?_; go_big_quiet_step (fail); refine wpQuiet_nil ?_)
  refine ord_end ?_
  go_upto_region 7 with fail
  refine wp_region_ord (C := fun w' => ∃ z : WIn (fun w' => Below w1.heap.size w1 w'), w' = z.w) [(false, 0), (false, 1), (false, 2), (false, 3), (false, 4), (false, 5), (false, 6), (false, 7)] (by kernel_rfl) (by kernel_rfl) ⟨⟨w4.drew, HB4.out.drew⟩, rfl⟩ ?_
  iterate 8 (refine ord_still rfl rfl ?_; go_big_quiet_step (fail); refine wpQuiet_nil ?_)
  refine ord_end ?_
  have HB5 : Hid (Below w1.heap.size w1 w4.drew) := HB4.out.drew
  go_upto_region 11 with fail
  refine wp_region_ord (C := fun w' => ∃ z : WIn (fun w' => Below w1.heap.size w1 w'), w' = z.w) [(false, 0), (false, 1), (false, 2), (false, 3), (false, 4), (false, 5), (false, 6), (false, 7)] (by kernel_rfl) (by kernel_rfl) ⟨⟨w4.drew.drew, HB5.out.drew⟩, rfl⟩ ?_
  iterate 8 (refine ord_still rfl rfl ?_; go_big_quiet_step (fail); refine wpQuiet_nil ?_)
  refine ord_end ?_
  have HB6 : Hid (Below w1.heap.size w1 w4.drew.drew) := HB5.out.drew
  go_upto_region 13 with fail
  clear k0 k1 k2 k3 k4 k5 k6 k7 l0 l1 l2 ne
  have HX2 : Hid (Blk w4.drew.drew n 47 [.int .i64 ew, .int .i64 ei, .int .u64 ep, .int .i64 et, .int .i64 eu, .int .i64 en, .slice a eb.length cap, .int .u64 eg]) := (show Blk _ _ _ _ from HX1.out.below HB6.out)
  have HBw : Hid (Below w.heap.size w w4.drew.drew) := bnext HB1.out HB6.out
  have k2 := fun z : WIn (fun w' => Blk w' n 47 [.int .i64 ew, .int .i64 ei, .int .u64 ep, .int .i64 et, .int .i64 eu, .int .i64 en, .slice a eb.length cap, .int .u64 eg]) => z.ok.cell 2 _ rfl
  have ne : Nonempty (WIn (fun w' => Blk w' n 47 [.int .i64 ew, .int .i64 ei, .int .u64 ep, .int .i64 et, .int .i64 eu, .int .i64 en, .slice a eb.length cap, .int .u64 eg])) := ⟨⟨w4.drew.drew, HX2.out⟩⟩
  refine wp_region_ord (C := fun w' => ∃ z : WIn (fun w' => Blk w' n 47 [.int .i64 ew, .int .i64 ei, .int .u64 ep, .int .i64 et, .int .i64 eu, .int .i64 en, .slice a eb.length cap, .int .u64 eg]), w' = z.w) [(false, 0), (false, 1), (false, 2), (false, 3), (true, 4), (false, 5), (false, 6)] (by kernel_rfl) (by kernel_rfl) ⟨⟨w4.drew.drew.drew, HX2.out⟩, rfl⟩ ?_
  iterate 4 (refine ord_still rfl rfl ?_; go_big_quiet_step (fail); refine wpQuiet_nil ?_)
  refine ord_mem rfl rfl ?_
  go_simp
  refine (HHE.out _ HBw.out.drew).mono ?_
  rintro q wh ⟨rfl, o3, hO3, hM3⟩
  have HM3 : Hid (Mv [8] w4.drew.drew (newTo o w 0) wh o3) := mv_undrew hM3
  have HO3 : Hid (ROrc w0 wh o3 r T) := hO3
  clear hO3 hM3
  have HX3 : Hid (Blk wh n 47 [.int .i64 ew, .int .i64 ei, .int .u64 ep, .int .i64 et, .int .i64 eu, .int .i64 en, .slice a eb.length cap, .int .u64 eg]) := (show Blk _ _ _ _ from HX2.out.block (HM3.out.block n HX2.out.lt (by rw [newTo_new (by have := HNN.out; omega)]; simp)))
  refine ⟨⟨⟨wh, HX3.out⟩, rfl⟩, ?_⟩
  iterate 2 (refine ord_still rfl rfl ?_; go_big_quiet_step (fail); refine wpQuiet_nil ?_)
  refine ord_end ?_
  clear k2 ne
  have HMw : Hid (Mv [8] w o wh o3) := (show Mv _ _ _ _ _ from (Mv.of_below 0 HBw.out).trans HM3.out)
  go_wp2
  go_ret
  exact ⟨rfl, o3, HO3.out, HMw.out⟩
end

section
set_option linter.unusedVariables false
set_option linter.unusedSimpArgs false
set_option synthInstance.maxSize 20000
set_option maxHeartbeats 2000000
set_option maxRecDepth 20000
open Go.RowKit Go.Maps

theorem rck7 {w0 w : World} {o : Nat → Nat} {j lx r : Nat} {T : St} {W p : Int} {es : List Ent} {sum : Int} {e : Ent} {x : Value} (h : RAsk w0 w o j lx r T W p es sum e x) (h1 : rightB e = true)(h2 : e.w = W)(h3 : T.verify p (textL e) e.g = true) (h4 : e.i = es.length) (h5 : e.p = sum) (h6 : laterB es e = false) :
    Calls Try.prog 24 #[ptr lx, ptr r, ev e x] w fun q w' => q = .returned (.int .i64 2) ∧ ∃ o', ROrc w0 w' o' r T ∧ Mv [8] w o w' o' := by
  have RT := fun w' (hb : Below w.heap.size w w') => refrightE_any e x w' (h.rd.below hb)
  have HD := fun w' (hb : Below w.heap.size w w') => (show Calls Try.prog 55 #[ptr r, .int .u64 p, ev e x] w' fun q w'' => q = .returned (.bool (rightB e && T.verify p (textL e) e.g)) ∧ Below w'.heap.size w' w'' from by
    obtain ⟨fr, sb, hr, _⟩ := h.orc
    exact rholdsE_any ⟨w0, sb⟩ w' r fr T (hr.below hb) h.fine p e x h.ok (h.rd.below hb))
  have HE := fun w' (hb : Below w.heap.size w w') => (show Calls Try.prog 41 #[ptr lx, ptr r] w' fun q w'' => q = .returned (.agg #[.int .i64 W, .int .i64 (es.length : Int), .int .u64 sum]) ∧ ∃ o', ROrc w0 w'' o' r T ∧ Mv [8] w' (newTo o w 0) w'' o' from by
    have := rhead_any (h.log.below hb) (h.orc.below hb) h.j8 h.last h.few
    rw [h.head] at this
    exact this)
  have LT := fun (w' : World) (o' : Nat → Nat) (m : Mv [8] w o w' o') => rlate_any (h.log.mv m (by simp) (by have := h.j8; simp; omega)) e
  have HK := fun w' (hb : Below w.heap.size w w') => (⟨_, h.orc.below hb, Mv.of_below 0 hb⟩ : ∃ o', ROrc w0 w' o' r T ∧ Mv [8] w o w' o')
  rw [h1] at RT
  rw [h1, h3] at HD
  have h2' : (e.w != W) = false := by simpa using h2
  clear h2
  rw [h6] at LT
  obtain ⟨v, ps, hA⟩ := h.log
  obtain ⟨av, cv', rfl, hcv1, hcv2, _⟩ := hA.row.slice
  have hlen : es.length = ps.length := hA.len
  have hblk := hA.blk
  have hfew := hA.few
  unfold maxLen at hcv2
  rw [hlen] at h4
  have h4a : ¬ e.i < (ps.length : Int) := by omega
  have h4b : ¬ (ps.length : Int) < e.i := by omega
  clear h4
  have h5' : (e.p != sum) = false := by simpa using h5
  clear h5 h6
  obtain ⟨a, cap, hxx⟩ := h.rd.len
  subst hxx
  clear h hA
  obtain ⟨ew, ei, ep, et, eu, en, eb, eg⟩ := e
  unfold ev at *
  dsimp only at *
  have HRT : Hid (∀ w', Below w.heap.size w w' → Calls Try.prog 47 #[.agg #[.int .i64 ew, .int .i64 ei, .int .u64 ep, .int .i64 et, .int .i64 eu, .int .i64 en, .slice a eb.length cap, .int .u64 eg]] w' fun q w'' => q = .returned (.bool true) ∧ Below w'.heap.size w' w'') := RT
  have HHD : Hid (∀ w', Below w.heap.size w w' → Calls Try.prog 55 #[ptr r, .int .u64 p, .agg #[.int .i64 ew, .int .i64 ei, .int .u64 ep, .int .i64 et, .int .i64 eu, .int .i64 en, .slice a eb.length cap, .int .u64 eg]] w' fun q w'' => q = .returned (.bool (true && true)) ∧ Below w'.heap.size w' w'') := HD
  rw [hlen] at HE
  have HHE : Hid (∀ w', Below w.heap.size w w' → Calls Try.prog 41 #[ptr lx, ptr r] w' fun q w'' => q = .returned (.agg #[.int .i64 W, .int .i64 (ps.length : Int), .int .u64 sum]) ∧ ∃ o', ROrc w0 w'' o' r T ∧ Mv [8] w' (newTo o w 0) w'' o') := HE
  have HLT : Hid (∀ (w' : World) (o' : Nat → Nat), Mv [8] w o w' o' → Calls Try.prog 48 #[ptr lx, .agg #[.int .i64 et, .int .i64 eu]] w' fun q w'' => q = .returned (.bool (!false)) ∧ Below w'.heap.size w' w'') := LT
  have HKO : Hid (∀ w', Below w.heap.size w w' → ∃ o', ROrc w0 w' o' r T ∧ Mv [8] w o w' o') := HK
  obtain ⟨w1, hw1⟩ : ∃ w1, w1 = w.alloc (.cells #[.int .i64 ew, .int .i64 ei, .int .u64 ep, .int .i64 et, .int .i64 eu, .int .i64 en, .slice a eb.length cap, .int .u64 eg] 47) := ⟨_, rfl⟩
  have HB1 : Hid (Below w.heap.size w w1) := by show Below _ _ _; rw [hw1]; exact balloc (Below.refl _ _) _
  have HX1 : Hid (Blk w1 w.heap.size 47 [.int .i64 ew, .int .i64 ei, .int .u64 ep, .int .i64 et, .int .i64 eu, .int .i64 en, .slice a eb.length cap, .int .u64 eg]) := by show Blk _ _ _ _; rw [hw1]; exact blk_new w [.int .i64 ew, .int .i64 ei, .int .u64 ep, .int .i64 et, .int .i64 eu, .int .i64 en, .slice a eb.length cap, .int .u64 eg] 47
  have HL1 : Hid (Blk w1 lx 42 [.int .i64 W, .int .u64 p, .slice av ps.length cv']) := (show Blk _ _ _ _ from hblk.below HB1.out)
  clear RT HK hblk HD HE LT
  go_enter Try.func24, Try.ntmps24
  go_upto_region 1 with fail
  rw [← hw1]
  obtain ⟨n, hn⟩ : ∃ n, n = w.heap.size := ⟨_, rfl⟩
  rw [← hn] at HX1 ⊢
  have HNN : Hid (n = w.heap.size) := hn
  clear hw1 hn
  have c0 := HX1.out.cell 0 _ rfl; have c1 := HX1.out.cell 1 _ rfl; have c2 := HX1.out.cell 2 _ rfl; have c3 := HX1.out.cell 3 _ rfl; have c4 := HX1.out.cell 4 _ rfl; have c5 := HX1.out.cell 5 _ rfl; have c6 := HX1.out.cell 6 _ rfl; have c7 := HX1.out.cell 7 _ rfl
  go_upto_region 3 with (go_at_call 47; go_must (refine (HRT.out w1 HB1.out).mono ?_; rintro q w2 ⟨rfl, hb2⟩; have HB2 : Hid (Below w1.heap.size w1 w2) := hb2; clear hb2))
  clear c0 c1 c2 c3 c4 c5 c6 c7
  have k0 := fun z : WIn (fun w' => Below w1.heap.size w1 w') => (HX1.out.below z.ok).cell 0 _ rfl
  have k1 := fun z : WIn (fun w' => Below w1.heap.size w1 w') => (HX1.out.below z.ok).cell 1 _ rfl
  have k2 := fun z : WIn (fun w' => Below w1.heap.size w1 w') => (HX1.out.below z.ok).cell 2 _ rfl
  have k3 := fun z : WIn (fun w' => Below w1.heap.size w1 w') => (HX1.out.below z.ok).cell 3 _ rfl
  have k4 := fun z : WIn (fun w' => Below w1.heap.size w1 w') => (HX1.out.below z.ok).cell 4 _ rfl
  have k5 := fun z : WIn (fun w' => Below w1.heap.size w1 w') => (HX1.out.below z.ok).cell 5 _ rfl
  have k6 := fun z : WIn (fun w' => Below w1.heap.size w1 w') => (HX1.out.below z.ok).cell 6 _ rfl
  have k7 := fun z : WIn (fun w' => Below w1.heap.size w1 w') => (HX1.out.below z.ok).cell 7 _ rfl
  have l0 := fun z : WIn (fun w' => Below w1.heap.size w1 w') => (HL1.out.below z.ok).cell 0 _ rfl
  have l1 := fun z : WIn (fun w' => Below w1.heap.size w1 w') => (HL1.out.below z.ok).cell 1 _ rfl
  have l2 := fun z : WIn (fun w' => Below w1.heap.size w1 w') => (HL1.out.below z.ok).cell 2 _ rfl
  have ne : Nonempty (WIn (fun w' => Below w1.heap.size w1 w')) := ⟨⟨w1, Below.refl _ _⟩⟩
  refine wp_region_ord (C := fun w' => ∃ z : WIn (fun w' => Below w1.heap.size w1 w'), w' = z.w) [(false, 0), (false, 1), (false, 2), (false, 3), (false, 4), (false, 5), (false, 6)] (by kernel_rfl) (by kernel_rfl) ⟨⟨w2.drew, HB2.out.drew⟩, rfl⟩ ?_
  iterate 7 (refine ord_still rfl rfl ?_; go_big_quiet_step (fail); refine wpQuiet_nil ?_)
  refine ord_end ?_
  have HB3 : Hid (Below w1.heap.size w1 w2.drew) := HB2.out.drew
  go_upto_region 5 with fail
  refine wp_region_ord (C := fun w' => ∃ z : WIn (fun w' => Below w1.heap.size w1 w'), w' = z.w) [(false, 0), (false, 1), (false, 2), (false, 3), (false, 4), (false, 5), (true, 6), (false, 7)] (by kernel_rfl) (by kernel_rfl) ⟨⟨w2.drew.drew, HB3.out.drew⟩, rfl⟩ ?_
  iterate 6 (refine ord_still rfl rfl ?_; go_big_quiet_step (fail); refine wpQuiet_nil ?_)
  refine ord_mem rfl rfl ?_
  go_simp
  refine (HHD.out _ (bnext HB1.out HB3.out.drew)).mono ?_
  rintro q w4 ⟨rfl, hb3⟩
  have HB4 : Hid (Below w1.heap.size w1 w4) := bnext HB3.out.drew hb3
  clear hb3
  refine ⟨⟨⟨w4, HB4.out⟩, rfl⟩, ?_⟩
  iterate 1 (refine ord_still rfl rfl ?_; go_big_quiet_step (fail); refine wpQuiet_nil ?_)
  refine ord_end ?_
  go_upto_region 7 with fail
  refine wp_region_ord (C := fun w' => ∃ z : WIn (fun w' => Below w1.heap.size w1 w'), w' = z.w) [(false, 0), (false, 1), (false, 2), (false, 3), (false, 4), (false, 5), (false, 6), (false, 7)] (by kernel_rfl) (by kernel_rfl) ⟨⟨w4.drew, HB4.out.drew⟩, rfl⟩ ?_
  iterate 8 (refine ord_still rfl rfl ?_; go_big_quiet_step (fail); refine wpQuiet_nil ?_)
  refine ord_end ?_
  have HB5 : Hid (Below w1.heap.size w1 w4.drew) := HB4.out.drew
  go_upto_region 11 with fail
  refine wp_region_ord (C := fun w' => ∃ z : WIn (fun w' => Below w1.heap.size w1 w'), w' = z.w) [(false, 0), (false, 1), (false, 2), (false, 3), (false, 4), (false, 5), (false, 6), (false, 7)] (by kernel_rfl) (by kernel_rfl) ⟨⟨w4.drew.drew, HB5.out.drew⟩, rfl⟩ ?_
  iterate 8 (refine ord_still rfl rfl ?_; go_big_quiet_step (fail); refine wpQuiet_nil ?_)
  refine ord_end ?_
  have HB6 : Hid (Below w1.heap.size w1 w4.drew.drew) := HB5.out.drew
  go_upto_region 13 with fail
  clear k0 k1 k2 k3 k4 k5 k6 k7 l0 l1 l2 ne
  have HX2 : Hid (Blk w4.drew.drew n 47 [.int .i64 ew, .int .i64 ei, .int .u64 ep, .int .i64 et, .int .i64 eu, .int .i64 en, .slice a eb.length cap, .int .u64 eg]) := (show Blk _ _ _ _ from HX1.out.below HB6.out)
  have HBw : Hid (Below w.heap.size w w4.drew.drew) := bnext HB1.out HB6.out
  have k2 := fun z : WIn (fun w' => Blk w' n 47 [.int .i64 ew, .int .i64 ei, .int .u64 ep, .int .i64 et, .int .i64 eu, .int .i64 en, .slice a eb.length cap, .int .u64 eg]) => z.ok.cell 2 _ rfl
  have ne : Nonempty (WIn (fun w' => Blk w' n 47 [.int .i64 ew, .int .i64 ei, .int .u64 ep, .int .i64 et, .int .i64 eu, .int .i64 en, .slice a eb.length cap, .int .u64 eg])) := ⟨⟨w4.drew.drew, HX2.out⟩⟩
  refine wp_region_ord (C := fun w' => ∃ z : WIn (fun w' => Blk w' n 47 [.int .i64 ew, .int .i64 ei, .int .u64 ep, .int .i64 et, .int .i64 eu, .int .i64 en, .slice a eb.length cap, .int .u64 eg]), w' = z.w) [(false, 0), (false, 1), (false, 2), (false, 3), (true, 4), (false, 5), (false, 6)] (by kernel_rfl) (by kernel_rfl) ⟨⟨w4.drew.drew.drew, HX2.out⟩, rfl⟩ ?_
  iterate 4 (refine ord_still rfl rfl ?_; go_big_quiet_step (fail); refine wpQuiet_nil ?_)
  refine ord_mem rfl rfl ?_
  go_simp
  refine (HHE.out _ HBw.out.drew).mono ?_
  rintro q wh ⟨rfl, o3, hO3, hM3⟩
  have HM3 : Hid (Mv [8] w4.drew.drew (newTo o w 0) wh o3) := mv_undrew hM3
  have HO3 : Hid (ROrc w0 wh o3 r T) := hO3
  clear hO3 hM3
  have HX3 : Hid (Blk wh n 47 [.int .i64 ew, .int .i64 ei, .int .u64 ep, .int .i64 et, .int .i64 eu, .int .i64 en, .slice a eb.length cap, .int .u64 eg]) := (show Blk _ _ _ _ from HX2.out.block (HM3.out.block n HX2.out.lt (by rw [newTo_new (by have := HNN.out; omega)]; simp)))
  refine ⟨⟨⟨wh, HX3.out⟩, rfl⟩, ?_⟩
  iterate 2 (refine ord_still rfl rfl ?_; go_big_quiet_step (fail); refine wpQuiet_nil ?_)
  refine ord_end ?_
  clear k2 ne
  have HMw : Hid (Mv [8] w o wh o3) := (show Mv _ _ _ _ _ from (Mv.of_below 0 HBw.out).trans HM3.out)
  have c0 := HX3.out.cell 0 _ rfl; have c1 := HX3.out.cell 1 _ rfl; have c2 := HX3.out.cell 2 _ rfl; have c3 := HX3.out.cell 3 _ rfl; have c4 := HX3.out.cell 4 _ rfl; have c5 := HX3.out.cell 5 _ rfl; have c6 := HX3.out.cell 6 _ rfl; have c7 := HX3.out.cell 7 _ rfl
  go_wp2_with (go_at_call 48; go_must (refine (HLT.out wh o3 HMw.out).mono ?_; rintro q w4 ⟨rfl, hb4⟩))
  go_ret
  exact ⟨rfl, _, HO3.out.below hb4, HMw.out.trans (Mv.of_below 0 hb4)⟩
end

section
set_option linter.unusedVariables false
set_option linter.unusedSimpArgs false
set_option synthInstance.maxSize 20000
set_option maxHeartbeats 2000000
set_option maxRecDepth 20000
open Go.RowKit Go.Maps

theorem rck8 {w0 w : World} {o : Nat → Nat} {j lx r : Nat} {T : St} {W p : Int} {es : List Ent} {sum : Int} {e : Ent} {x : Value} (h : RAsk w0 w o j lx r T W p es sum e x) (h1 : rightB e = true)(h2 : e.w = W)(h3 : T.verify p (textL e) e.g = true) (h4 : e.i = es.length) (h5 : e.p = sum) (h6 : laterB es e = true) :
    Calls Try.prog 24 #[ptr lx, ptr r, ev e x] w fun q w' => q = .returned (.int .i64 0) ∧ ∃ o', ROrc w0 w' o' r T ∧ Mv [8] w o w' o' := by
  have RT := fun w' (hb : Below w.heap.size w w') => refrightE_any e x w' (h.rd.below hb)
  have HD := fun w' (hb : Below w.heap.size w w') => (show Calls Try.prog 55 #[ptr r, .int .u64 p, ev e x] w' fun q w'' => q = .returned (.bool (rightB e && T.verify p (textL e) e.g)) ∧ Below w'.heap.size w' w'' from by
    obtain ⟨fr, sb, hr, _⟩ := h.orc
    exact rholdsE_any ⟨w0, sb⟩ w' r fr T (hr.below hb) h.fine p e x h.ok (h.rd.below hb))
  have HE := fun w' (hb : Below w.heap.size w w') => (show Calls Try.prog 41 #[ptr lx, ptr r] w' fun q w'' => q = .returned (.agg #[.int .i64 W, .int .i64 (es.length : Int), .int .u64 sum]) ∧ ∃ o', ROrc w0 w'' o' r T ∧ Mv [8] w' (newTo o w 0) w'' o' from by
    have := rhead_any (h.log.below hb) (h.orc.below hb) h.j8 h.last h.few
    rw [h.head] at this
    exact this)
  have LT := fun (w' : World) (o' : Nat → Nat) (m : Mv [8] w o w' o') => rlate_any (h.log.mv m (by simp) (by have := h.j8; simp; omega)) e
  have HK := fun w' (hb : Below w.heap.size w w') => (⟨_, h.orc.below hb, Mv.of_below 0 hb⟩ : ∃ o', ROrc w0 w' o' r T ∧ Mv [8] w o w' o')
  rw [h1] at RT
  rw [h1, h3] at HD
  have h2' : (e.w != W) = false := by simpa using h2
  clear h2
  rw [h6] at LT
  obtain ⟨v, ps, hA⟩ := h.log
  obtain ⟨av, cv', rfl, hcv1, hcv2, _⟩ := hA.row.slice
  have hlen : es.length = ps.length := hA.len
  have hblk := hA.blk
  have hfew := hA.few
  unfold maxLen at hcv2
  rw [hlen] at h4
  have h4a : ¬ e.i < (ps.length : Int) := by omega
  have h4b : ¬ (ps.length : Int) < e.i := by omega
  clear h4
  have h5' : (e.p != sum) = false := by simpa using h5
  clear h5 h6
  obtain ⟨a, cap, hxx⟩ := h.rd.len
  subst hxx
  clear h hA
  obtain ⟨ew, ei, ep, et, eu, en, eb, eg⟩ := e
  unfold ev at *
  dsimp only at *
  have HRT : Hid (∀ w', Below w.heap.size w w' → Calls Try.prog 47 #[.agg #[.int .i64 ew, .int .i64 ei, .int .u64 ep, .int .i64 et, .int .i64 eu, .int .i64 en, .slice a eb.length cap, .int .u64 eg]] w' fun q w'' => q = .returned (.bool true) ∧ Below w'.heap.size w' w'') := RT
  have HHD : Hid (∀ w', Below w.heap.size w w' → Calls Try.prog 55 #[ptr r, .int .u64 p, .agg #[.int .i64 ew, .int .i64 ei, .int .u64 ep, .int .i64 et, .int .i64 eu, .int .i64 en, .slice a eb.length cap, .int .u64 eg]] w' fun q w'' => q = .returned (.bool (true && true)) ∧ Below w'.heap.size w' w'') := HD
  rw [hlen] at HE
  have HHE : Hid (∀ w', Below w.heap.size w w' → Calls Try.prog 41 #[ptr lx, ptr r] w' fun q w'' => q = .returned (.agg #[.int .i64 W, .int .i64 (ps.length : Int), .int .u64 sum]) ∧ ∃ o', ROrc w0 w'' o' r T ∧ Mv [8] w' (newTo o w 0) w'' o') := HE
  have HLT : Hid (∀ (w' : World) (o' : Nat → Nat), Mv [8] w o w' o' → Calls Try.prog 48 #[ptr lx, .agg #[.int .i64 et, .int .i64 eu]] w' fun q w'' => q = .returned (.bool (!true)) ∧ Below w'.heap.size w' w'') := LT
  have HKO : Hid (∀ w', Below w.heap.size w w' → ∃ o', ROrc w0 w' o' r T ∧ Mv [8] w o w' o') := HK
  obtain ⟨w1, hw1⟩ : ∃ w1, w1 = w.alloc (.cells #[.int .i64 ew, .int .i64 ei, .int .u64 ep, .int .i64 et, .int .i64 eu, .int .i64 en, .slice a eb.length cap, .int .u64 eg] 47) := ⟨_, rfl⟩
  have HB1 : Hid (Below w.heap.size w w1) := by show Below _ _ _; rw [hw1]; exact balloc (Below.refl _ _) _
  have HX1 : Hid (Blk w1 w.heap.size 47 [.int .i64 ew, .int .i64 ei, .int .u64 ep, .int .i64 et, .int .i64 eu, .int .i64 en, .slice a eb.length cap, .int .u64 eg]) := by show Blk _ _ _ _; rw [hw1]; exact blk_new w [.int .i64 ew, .int .i64 ei, .int .u64 ep, .int .i64 et, .int .i64 eu, .int .i64 en, .slice a eb.length cap, .int .u64 eg] 47
  have HL1 : Hid (Blk w1 lx 42 [.int .i64 W, .int .u64 p, .slice av ps.length cv']) := (show Blk _ _ _ _ from hblk.below HB1.out)
  clear RT HK hblk HD HE LT
  go_enter Try.func24, Try.ntmps24
  go_upto_region 1 with fail
  rw [← hw1]
  obtain ⟨n, hn⟩ : ∃ n, n = w.heap.size := ⟨_, rfl⟩
  rw [← hn] at HX1 ⊢
  have HNN : Hid (n = w.heap.size) := hn
  clear hw1 hn
  have c0 := HX1.out.cell 0 _ rfl; have c1 := HX1.out.cell 1 _ rfl; have c2 := HX1.out.cell 2 _ rfl; have c3 := HX1.out.cell 3 _ rfl; have c4 := HX1.out.cell 4 _ rfl; have c5 := HX1.out.cell 5 _ rfl; have c6 := HX1.out.cell 6 _ rfl; have c7 := HX1.out.cell 7 _ rfl
  go_upto_region 3 with (go_at_call 47; go_must (refine (HRT.out w1 HB1.out).mono ?_; rintro q w2 ⟨rfl, hb2⟩; have HB2 : Hid (Below w1.heap.size w1 w2) := hb2; clear hb2))
  clear c0 c1 c2 c3 c4 c5 c6 c7
  have k0 := fun z : WIn (fun w' => Below w1.heap.size w1 w') => (HX1.out.below z.ok).cell 0 _ rfl
  have k1 := fun z : WIn (fun w' => Below w1.heap.size w1 w') => (HX1.out.below z.ok).cell 1 _ rfl
  have k2 := fun z : WIn (fun w' => Below w1.heap.size w1 w') => (HX1.out.below z.ok).cell 2 _ rfl
  have k3 := fun z : WIn (fun w' => Below w1.heap.size w1 w') => (HX1.out.below z.ok).cell 3 _ rfl
  have k4 := fun z : WIn (fun w' => Below w1.heap.size w1 w') => (HX1.out.below z.ok).cell 4 _ rfl
  have k5 := fun z : WIn (fun w' => Below w1.heap.size w1 w') => (HX1.out.below z.ok).cell 5 _ rfl
  have k6 := fun z : WIn (fun w' => Below w1.heap.size w1 w') => (HX1.out.below z.ok).cell 6 _ rfl
  have k7 := fun z : WIn (fun w' => Below w1.heap.size w1 w') => (HX1.out.below z.ok).cell 7 _ rfl
  have l0 := fun z : WIn (fun w' => Below w1.heap.size w1 w') => (HL1.out.below z.ok).cell 0 _ rfl
  have l1 := fun z : WIn (fun w' => Below w1.heap.size w1 w') => (HL1.out.below z.ok).cell 1 _ rfl
  have l2 := fun z : WIn (fun w' => Below w1.heap.size w1 w') => (HL1.out.below z.ok).cell 2 _ rfl
  have ne : Nonempty (WIn (fun w' => Below w1.heap.size w1 w')) := ⟨⟨w1, Below.refl _ _⟩⟩
  refine wp_region_ord (C := fun w' => ∃ z : WIn (fun w' => Below w1.heap.size w1 w'), w' = z.w) [(false, 0), (false, 1), (false, 2), (false, 3), (false, 4), (false, 5), (false, 6)] (by kernel_rfl) (by kernel_rfl) ⟨⟨w2.drew, HB2.out.drew⟩, rfl⟩ ?_
  iterate 7 (refine ord_still rfl rfl ?_; go_big_quiet_step (fail); refine wpQuiet_nil ?_)
  refine ord_end ?_
  have HB3 : Hid (Below w1.heap.size w1 w2.drew) := HB2.out.drew
  go_upto_region 5 with fail
  refine wp_region_ord (C := fun w' => ∃ z : WIn (fun w' => Below w1.heap.size w1 w'), w' = z.w) [(false, 0), (false, 1), (false, 2), (false, 3), (false, 4), (false, 5), (true, 6), (false, 7)] (by kernel_rfl) (by kernel_rfl) ⟨⟨w2.drew.drew, HB3.out.drew⟩, rfl⟩ ?_
  iterate 6 (refine ord_still rfl rfl ?_; go_big_quiet_step (fail); refine wpQuiet_nil ?_)
  refine ord_mem rfl rfl ?_
  go_simp
  refine (HHD.out _ (bnext HB1.out HB3.out.drew)).mono ?_
  rintro q w4 ⟨rfl, hb3⟩
  have HB4 : Hid (Below w1.heap.size w1 w4) := bnext HB3.out.drew hb3
  clear hb3
  refine ⟨⟨⟨w4, HB4.out⟩, rfl⟩, ?_⟩
  iterate 1 (refine ord_still rfl rfl ?_; go_big_quiet_step (fail); refine wpQuiet_nil ?_)
  refine ord_end ?_
  go_upto_region 7 with fail
  refine wp_region_ord (C := fun w' => ∃ z : WIn (fun w' => Below w1.heap.size w1 w'), w' = z.w) [(false, 0), (false, 1), (false, 2), (false, 3), (false, 4), (false, 5), (false, 6), (false, 7)] (by kernel_rfl) (by kernel_rfl) ⟨⟨w4.drew, HB4.out.drew⟩, rfl⟩ ?_
  iterate 8 (refine ord_still rfl rfl ?_; go_big_quiet_step (fail); refine wpQuiet_nil ?_)
  refine ord_end ?_
  have HB5 : Hid (Below w1.heap.size w1 w4.drew) := HB4.out.drew
  go_upto_region 11 with fail
  refine wp_region_ord (C := fun w' => ∃ z : WIn (fun w' => Below w1.heap.size w1 w'), w' = z.w) [(false, 0), (false, 1), (false, 2), (false, 3), (false, 4), (false, 5), (false, 6), (false, 7)] (by kernel_rfl) (by kernel_rfl) ⟨⟨w4.drew.drew, HB5.out.drew⟩, rfl⟩ ?_
  iterate 8 (refine ord_still rfl rfl ?_; go_big_quiet_step (fail); refine wpQuiet_nil ?_)
  refine ord_end ?_
  have HB6 : Hid (Below w1.heap.size w1 w4.drew.drew) := HB5.out.drew
  go_upto_region 13 with fail
  clear k0 k1 k2 k3 k4 k5 k6 k7 l0 l1 l2 ne
  have HX2 : Hid (Blk w4.drew.drew n 47 [.int .i64 ew, .int .i64 ei, .int .u64 ep, .int .i64 et, .int .i64 eu, .int .i64 en, .slice a eb.length cap, .int .u64 eg]) := (show Blk _ _ _ _ from HX1.out.below HB6.out)
  have HBw : Hid (Below w.heap.size w w4.drew.drew) := bnext HB1.out HB6.out
  have k2 := fun z : WIn (fun w' => Blk w' n 47 [.int .i64 ew, .int .i64 ei, .int .u64 ep, .int .i64 et, .int .i64 eu, .int .i64 en, .slice a eb.length cap, .int .u64 eg]) => z.ok.cell 2 _ rfl
  have ne : Nonempty (WIn (fun w' => Blk w' n 47 [.int .i64 ew, .int .i64 ei, .int .u64 ep, .int .i64 et, .int .i64 eu, .int .i64 en, .slice a eb.length cap, .int .u64 eg])) := ⟨⟨w4.drew.drew, HX2.out⟩⟩
  refine wp_region_ord (C := fun w' => ∃ z : WIn (fun w' => Blk w' n 47 [.int .i64 ew, .int .i64 ei, .int .u64 ep, .int .i64 et, .int .i64 eu, .int .i64 en, .slice a eb.length cap, .int .u64 eg]), w' = z.w) [(false, 0), (false, 1), (false, 2), (false, 3), (true, 4), (false, 5), (false, 6)] (by kernel_rfl) (by kernel_rfl) ⟨⟨w4.drew.drew.drew, HX2.out⟩, rfl⟩ ?_
  iterate 4 (refine ord_still rfl rfl ?_; go_big_quiet_step (fail); refine wpQuiet_nil ?_)
  refine ord_mem rfl rfl ?_
  go_simp
  refine (HHE.out _ HBw.out.drew).mono ?_
  rintro q wh ⟨rfl, o3, hO3, hM3⟩
  have HM3 : Hid (Mv [8] w4.drew.drew (newTo o w 0) wh o3) := mv_undrew hM3
  have HO3 : Hid (ROrc w0 wh o3 r T) := hO3
  clear hO3 hM3
  have HX3 : Hid (Blk wh n 47 [.int .i64 ew, .int .i64 ei, .int .u64 ep, .int .i64 et, .int .i64 eu, .int .i64 en, .slice a eb.length cap, .int .u64 eg]) := (show Blk _ _ _ _ from HX2.out.block (HM3.out.block n HX2.out.lt (by rw [newTo_new (by have := HNN.out; omega)]; simp)))
  refine ⟨⟨⟨wh, HX3.out⟩, rfl⟩, ?_⟩
  iterate 2 (refine ord_still rfl rfl ?_; go_big_quiet_step (fail); refine wpQuiet_nil ?_)
  refine ord_end ?_
  clear k2 ne
  have HMw : Hid (Mv [8] w o wh o3) := (show Mv _ _ _ _ _ from (Mv.of_below 0 HBw.out).trans HM3.out)
  have c0 := HX3.out.cell 0 _ rfl; have c1 := HX3.out.cell 1 _ rfl; have c2 := HX3.out.cell 2 _ rfl; have c3 := HX3.out.cell 3 _ rfl; have c4 := HX3.out.cell 4 _ rfl; have c5 := HX3.out.cell 5 _ rfl; have c6 := HX3.out.cell 6 _ rfl; have c7 := HX3.out.cell 7 _ rfl
  go_wp2_with (go_at_call 48; go_must (refine (HLT.out wh o3 HMw.out).mono ?_; rintro q w4 ⟨rfl, hb4⟩))
  go_ret
  exact ⟨rfl, _, HO3.out.below hb4, HMw.out.trans (Mv.of_below 0 hb4)⟩
end

section
set_option linter.unusedVariables false
set_option linter.unusedSimpArgs false
set_option synthInstance.maxSize 20000
set_option maxHeartbeats 2000000
set_option maxRecDepth 20000
open Go.RowKit Go.Maps

theorem rcheck_any {w0 w : World} {o : Nat → Nat} {j lx r : Nat} {T : St} {W p : Int} {es : List Ent} {sum : Int} {e : Ent} {x : Value} (h : RAsk w0 w o j lx r T W p es sum e x) :
    Calls Try.prog 24 #[ptr lx, ptr r, ev e x] w fun q w' => q = .returned (.int .i64 (checkM T W p ⟨es, sum⟩ e)) ∧ ∃ o', ROrc w0 w' o' r T ∧ Mv [8] w o w' o' := by
  cases h1 : rightB e with
  | false => rw [ck1 h1]; exact rck1 h h1
  | true =>
    by_cases h2 : e.w = W
    · cases h3 : T.verify p (textL e) e.g with
      | false => rw [ck3 h1 h2 h3]; exact rck3 h h1 h2 h3
      | true =>
        have hi := ((rightB_iff e).1 h1).2.1
        rcases Int.lt_trichotomy e.i es.length with h4 | h4 | h4
        · obtain ⟨f, hf⟩ : ∃ f, es[e.i.toNat]? = some f := ⟨_, List.getElem?_eq_getElem (by omega)⟩
          rw [ck4 (L := ⟨es, sum⟩) h1 h2 h3 hf]
          cases hs : sameB f e with
          | true =>
            have := (sameB_iff f e).1 hs
            rw [if_pos (by rw [← this]; exact (sameB_iff f f).2 rfl)]
            exact rck4 h h1 h2 h3 hf hs
          | false =>
            rw [if_neg (fun c => by have := (sameB_iff e f).1 c; rw [← this, (sameB_iff e e).2 rfl] at hs; cases hs)]
            exact rck4n h h1 h2 h3 hf hs
        · by_cases h5 : e.p = sum
          · rw [ck7 (L := ⟨es, sum⟩) h1 h2 h3 h4 h5]
            cases h6 : laterB es e with
            | true => exact rck8 h h1 h2 h3 h4 h5 h6
            | false => exact rck7 h h1 h2 h3 h4 h5 h6
          · rw [ck6 (L := ⟨es, sum⟩) h1 h2 h3 h4 h5]; exact rck6 h h1 h2 h3 h4 h5
        · rw [ck5 (L := ⟨es, sum⟩) h1 h2 h3 h4]; exact rck5 h h1 h2 h3 h4
    · rw [ck2 h1 h2]; exact rck2 h h1 h2
end
end Go.Proofs.Yteedjdflojfhmaa
