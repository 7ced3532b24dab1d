/-
  Open and Create, by owners of blocks; Count, Room, Round; lists of bytes that stay (KL).
-/
import Derived.Test.YtkcighejmjgalaaDoorJrn2
namespace Go.Proofs.YtkcighejmjgalaaDoor
set_option linter.unusedVariables false
set_option linter.unusedSimpArgs false
set_option synthInstance.maxSize 20000
set_option maxHeartbeats 2000000
set_option maxRecDepth 20000
open Go.RowKit Go.Maps

/-! ### Lists of bytes that stay -/
structure KLq (w : World) (o : Nat → Nat) (v : Value) (qs : List VB) : Prop where
  rl : RL w v qs
  row : qs ≠ [] → ∀ k, v.ownBlock = some k → o k = 0
  el : ∀ q ∈ qs, q.2 ≠ [] → ∀ k, q.1.ownBlock = some k → o k = 0
def KL (w : World) (o : Nat → Nat) (v : Value) (L : List (List Int)) : Prop := ∃ qs, KLq w o v qs ∧ LL qs = L
theorem RL.rowLt {w : World} {v : Value} {qs : List VB} (h : RL w v qs) (hq : qs ≠ []) : ∀ k, v.ownBlock = some k → k < w.heap.size := by
  obtain ⟨a, cap, rfl⟩ := h.len
  cases qs with
  | nil => exact absurd rfl hq
  | cons q t =>
    obtain ⟨b, off, rfl, hc⟩ := h.at (i := 0) (q := q) rfl
    intro k hk
    have h1 := World.block_lt_of_cell? w _ hc
    have h2 := Option.some.inj hk
    simp at h1 h2
    omega
theorem KLq.mv {I : List Nat} {w w' : World} {o o' : Nat → Nat} {v : Value} {qs : List VB} (h : KLq w o v qs) (m : Mv I w o w' o') (h0 : 0 ∉ I) : KLq w' o' v qs := by
  refine ⟨⟨?_, fun q hq => ?_⟩, fun hq k hk => ?_, fun q hq hl k hk => ?_⟩
  · by_cases hq : qs = []
    · have h1 := h.rl.row
      subst hq
      obtain ⟨a, cap, e, h2, h3, h4, h5⟩ := h1
      exact ⟨a, cap, e, h2, h3, h4, fun hp => by simp at hp⟩
    · exact h.rl.row.blocks (fun j hj hlt => m.block j hlt (by rw [h.row hq j hj]; exact h0))
  · exact (h.rl.rd q hq).blocks (fun hl k hk hlt => m.block k hlt (by rw [h.el q hq hl k hk]; exact h0))
  · rw [m.ext k (h.rl.rowLt hq k hk)]
    exact h.row hq k hk
  · rw [m.ext k ((h.rl.rd q hq).blockLt hl k hk)]
    exact h.el q hq hl k hk
theorem KL.mv {I : List Nat} {w w' : World} {o o' : Nat → Nat} {v : Value} {L : List (List Int)} (h : KL w o v L) (m : Mv I w o w' o') (h0 : 0 ∉ I) : KL w' o' v L := by
  obtain ⟨qs, h1, h2⟩ := h
  exact ⟨qs, h1.mv m h0, h2⟩
theorem KL.nil (w : World) (o : Nat → Nat) : KL w o nilv [] := ⟨[], ⟨rl_nil w, fun h => absurd rfl h, fun q hq => by cases hq⟩, rfl⟩
theorem KL.slice {w : World} {o : Nat → Nat} {v : Value} {L : List (List Int)} (h : KL w o v L) : ∃ a cap, v = .slice a L.length cap ∧ L.length ≤ cap ∧ cap ≤ 9223372036854775807 := by
  obtain ⟨qs, h1, h2⟩ := h
  obtain ⟨a, cap, rfl⟩ := h1.rl.len
  have := h1.rl.row.caps
  have e : L.length = qs.length := by rw [← h2, LL_len]
  exact ⟨a, cap, by rw [e], by omega, this.2.2⟩
/-- New lists, where new blocks are nobody's. -/
theorem OutL.kl {B : Nat} {w1 w' : World} {o' : Nat → Nat} {v : Value} {L : List (List Int)} (h : OutL B w1 v L) (hb : Below w1.heap.size w1 w') (ho : ∀ k, B ≤ k → k < w1.heap.size → o' k = 0) : KL w' o' v L := by
  obtain ⟨qs, h1, h2, h3⟩ := h
  refine ⟨qs, ⟨h1.below hb, fun hq k hk => ho k (h3.row k hk) (h1.rowLt hq k hk), fun q hq hl k hk => ho k (h3.el q hq k hk) ((h1.rd q hq).blockLt hl k hk)⟩, h2⟩
theorem OutL.kl0 {w w' : World} {o : Nat → Nat} {v : Value} {L : List (List Int)} (h : OutL w.heap.size w' v L) : KL w' (newTo o w 0) v L := h.kl (Below.refl _ _) (fun k hk _ => newTo_new hk)

/-! ### The journal's block -/
structure JAt (w : World) (o : Nat → Nat) (jj jb db : Nat) (J : Jk) : Prop where
  blk : Blk w jb 97 (jc db J)
  ob : o jb = jj
theorem JAt.mv {I : List Nat} {w w' : World} {o o' : Nat → Nat} {jj jb db : Nat} {J : Jk} (h : JAt w o jj jb db J) (m : Mv I w o w' o') (hj : jj ∉ I) : JAt w' o' jj jb db J :=
  ⟨h.blk.block (m.block jb h.blk.lt (by rw [h.ob]; exact hj)), by rw [m.ext jb h.blk.lt]; exact h.ob⟩
/-- In that world the block is as it was. -/
structure JW (jb db : Nat) (J : Jk) (w : World) : Prop where
  blk : Blk w jb 97 (jc db J)
section
variable {w : World} {jb db : Nat} {J : Jk}
theorem count26 (h : Blk w jb 97 (jc db J)) : Calls Tryd.prog 35 #[ptr jb] w fun r w' => r = .returned (.int .i64 (J.count : Int)) ∧ w' = w := by
  have c := h.cell 5 _ rfl
  clear h
  generalize J.count = n at *
  go_enter Tryd.func35, Tryd.ntmps35
  go_wp2
  go_ret
  exact ⟨rfl, rfl⟩
theorem count26_nil (w : World) : Calls Tryd.prog 35 #[.pointer none] w fun r w' => r = .returned (.int .i64 0) ∧ w' = w := by
  go_enter Tryd.func35, Tryd.ntmps35
  go_wp2
  go_ret
  exact ⟨rfl, rfl⟩
theorem room27_nil (w : World) : Calls Tryd.prog 36 #[.pointer none] w fun r w' => r = .returned (.int .i64 0) ∧ w' = w := by
  go_enter Tryd.func36, Tryd.ntmps36
  go_wp2
  go_ret
  exact ⟨rfl, rfl⟩
theorem room27 (h : Blk w jb 97 (jc db J)) (hok : JOk J) : Calls Tryd.prog 36 #[ptr jb] w fun r w' => r = .returned (.int .i64 ((J.fin - J.next : Nat) : Int)) ∧ Below w.heap.size w w' := by
  have hnf := hok.nf
  have hff := hok.ff
  have e0 : ∀ z : WIn (JW jb db J), z.w.cell? ⟨jb, 3, none⟩ = some (.int .i64 (J.next : Int)) := fun z => z.ok.blk.cell 3 _ rfl
  have e1 : ∀ z : WIn (JW jb db J), z.w.cell? ⟨jb, 4, none⟩ = some (.int .i64 (J.fin : Int)) := fun z => z.ok.blk.cell 4 _ rfl
  have ne : Nonempty (WIn (JW jb db J)) := ⟨⟨w, ⟨h⟩⟩⟩
  have HB : Hid (Below w.heap.size w w.drew) := (Below.refl _ _).drew
  have HJ : Hid (JW jb db J w.drew) := ⟨h⟩
  have HE : Hid ((J.fin : Int) - (J.next : Int) = ((J.fin - J.next : Nat) : Int)) := by show _ = _; omega
  clear h hok
  go_enter Tryd.func36, Tryd.ntmps36
  go_upto_region 3 with fail
  refine wp_region_tree (C := fun w' => ∃ z : WIn (JW jb db J), w' = z.w) (.still 0 (.still 1 (.still 2 (.still 3 (.still 4 (.still 5 (.still 6 (.still 7 (.still 8 (.still 9 .done)))))))))) (by kernel_rfl) (by kernel_rfl) ⟨⟨w.drew, HJ.out⟩, rfl⟩ ?_
  generalize w.drew = wd at *
  iterate 10 (refine tree_still rfl rfl ?_; go_big_quiet_step (fail); refine wpQuiet_nil ?_)
  refine tree_done ?_
  clear e0 e1 ne
  go_wp2
  go_ret
  exact ⟨by rw [← HE.out]; rfl, HB.out⟩
end

/-! ### Open, Create -/
section
variable {w : World} {o : Nat → Nat} {j b : Nat} {D : Dk}
theorem open_bad (h : DIs w o j b D) (hl : D.now.length ≤ 400) {base size gen : Int} (hb : I64 base) (hs : I64 size) (hg : U32 gen) (hk : wrongK D base size gen ≠ 0) : Calls Tryd.prog 46 #[ptr b, .int .i64 base, .int .i64 size, .int .u32 gen] w fun r w' => r = .returned (.tuple #[.pointer none, nilv, .int .i64 (wrongK D base size gen)]) ∧ w' = w := by
  have H49 : Hid (Calls Tryd.prog 65 #[ptr b, .int .i64 base, .int .i64 size, .int .u32 gen] w fun r w' => r = .returned (.tuple #[.pointer none, nilv, .int .i64 0, .int .i64 (wrongK D base size gen)]) ∧ w' = w) := begin_bad h hl hb hs hg hk
  have hk' : (wrongK D base size gen != 0) = true := by simpa using hk
  generalize wrongK D base size gen = K at *
  unfold nilv at *
  clear h hk
  go_enter Tryd.func46, Tryd.ntmps46
  go_wp2_with (go_at_call 65; go_must (refine H49.out.mono ?_; rintro r w2 ⟨rfl, hw2⟩; replace hw2 := hw2.symm; subst hw2))
  refine bodyPost_ret (results_tmp3 rfl _ _ _) rfl ⟨rfl, rfl⟩
theorem open_nil (w : World) : Calls Tryd.prog 46 #[.pointer none, .int .i64 0, .int .i64 1, .int .u32 1] w fun r w' => r = .returned (.tuple #[.pointer none, nilv, .int .i64 23]) ∧ w' = w := by
  have H49 : Hid (Calls Tryd.prog 65 #[.pointer none, .int .i64 0, .int .i64 1, .int .u32 1] w fun r w' => r = .returned (.tuple #[.pointer none, nilv, .int .i64 0, .int .i64 23]) ∧ w' = w) := begin_nil w
  unfold nilv at *
  go_enter Tryd.func46, Tryd.ntmps46
  go_wp2_with (go_at_call 65; go_must (refine H49.out.mono ?_; rintro r w2 ⟨rfl, hw2⟩; replace hw2 := hw2.symm; subst hw2))
  refine bodyPost_ret (results_tmp3 rfl _ _ _) rfl ⟨rfl, rfl⟩
theorem open_range (h : DIs w o j b D) (hl : D.now.length ≤ 400) {base size : Nat} {gen : Int} (hg : U32 gen) (hk : wrongK D base size gen = 0) (hr : latest (cont D base size) gen = 4294967295) : Calls Tryd.prog 46 #[ptr b, .int .i64 (base : Int), .int .i64 (size : Int), .int .u32 gen] w fun r w' => r = .returned (.tuple #[.pointer none, nilv, .int .i64 2]) ∧ Below w.heap.size w w' := by
  have H49 : Hid (Calls Tryd.prog 65 #[ptr b, .int .i64 (base : Int), .int .i64 (size : Int), .int .u32 gen] w fun r w' => r = .returned (.tuple #[.pointer none, nilv, .int .i64 0, .int .i64 2]) ∧ Below w.heap.size w w') := begin_range h hl hg hk hr
  have hbs := (begin_calls h hl hg hk).2.1
  unfold nilv at *
  clear h hk
  go_enter Tryd.func46, Tryd.ntmps46
  go_wp2_with (go_at_call 65; go_must (refine H49.out.mono ?_; rintro r w2 ⟨rfl, hb2⟩; have HB2 : Hid (Below w.heap.size w w2) := hb2; clear hb2))
  refine bodyPost_ret (results_tmp3 rfl _ _ _) rfl ⟨rfl, HB2.out⟩
theorem open_ok (h : DIs w o j b D) (hl : D.now.length ≤ 400) {base size : Nat} {gen : Int} (hg : U32 gen) (hk : wrongK D base size gen = 0) (hr : latest (cont D base size) gen ≠ 4294967295) (jj : Nat) : Calls Tryd.prog 46 #[ptr b, .int .i64 (base : Int), .int .i64 (size : Int), .int .u32 gen] w fun r w' => ∃ jb v, r = .returned (.tuple #[ptr jb, v, .int .i64 0]) ∧ ∃ o', JAt w' o' jj jb b (openJ (cont D base size) base size gen) ∧ KL w' o' v (scan (cont D base size) gen).1 ∧ Mv [] w o w' o' ∧ w.heap.size ≤ jb := by
  have H49 := begin_ok h hl hg hk hr
  have hbs := (begin_calls h hl hg hk).2.1
  have hoct := (begin_calls h hl hg hk).2.2.1
  have hlen := (begin_calls h hl hg hk).2.2.2.1
  have hse := (scan_end (cont D base size) gen).1
  have ht := hse.1
  have hc := hse.2.1
  rw [hlen] at ht
  have HPost : Hid (∀ w1 v, OutL w.heap.size w1 v (scan (cont D base size) gen).1 → Below w.heap.size w w1 → ∃ o', JAt (((w1.alloc (.cells (jc b (beginJ (cont D base size) base size gen)).toArray 97)).setCell ⟨w1.heap.size, 3, none⟩ (.int .i64 ((base : Int) + ((scan (cont D base size) gen).2 : Int)))).setCell ⟨w1.heap.size, 5, none⟩ (.int .i64 ((scan (cont D base size) gen).1.length : Int))) o' jj w1.heap.size b (openJ (cont D base size) base size gen) ∧ KL (((w1.alloc (.cells (jc b (beginJ (cont D base size) base size gen)).toArray 97)).setCell ⟨w1.heap.size, 3, none⟩ (.int .i64 ((base : Int) + ((scan (cont D base size) gen).2 : Int)))).setCell ⟨w1.heap.size, 5, none⟩ (.int .i64 ((scan (cont D base size) gen).1.length : Int))) o' v (scan (cont D base size) gen).1 ∧ Mv [] w o (((w1.alloc (.cells (jc b (beginJ (cont D base size) base size gen)).toArray 97)).setCell ⟨w1.heap.size, 3, none⟩ (.int .i64 ((base : Int) + ((scan (cont D base size) gen).2 : Int)))).setCell ⟨w1.heap.size, 5, none⟩ (.int .i64 ((scan (cont D base size) gen).1.length : Int))) o' ∧ w.heap.size ≤ w1.heap.size) := fun w1 v ho hb => by
    have hB := ((blk_new w1 (jc b (beginJ (cont D base size) base size gen)) 97).set 3 (.int .i64 ((base : Int) + ((scan (cont D base size) gen).2 : Int)))).set 5 (.int .i64 ((scan (cont D base size) gen).1.length : Int))
    have hb1 : Below w1.heap.size w1 (((w1.alloc (.cells (jc b (beginJ (cont D base size) base size gen)).toArray 97)).setCell ⟨w1.heap.size, 3, none⟩ (.int .i64 ((base : Int) + ((scan (cont D base size) gen).2 : Int)))).setCell ⟨w1.heap.size, 5, none⟩ (.int .i64 ((scan (cont D base size) gen).1.length : Int))) := bgrown (bgrown (balloc (Below.refl _ _) _) (Nat.le_refl _) (grown_setCell _ _ _ _)) (Nat.le_refl _) (grown_setCell _ _ _ _)
    have hsz := hb.size
    refine ⟨newBy o w (fun k => if k = w1.heap.size then jj else 0), ⟨?_, ?_⟩, ho.kl hb1 (fun k hk hlt => ?_), Mv.of_turn' (ft := []) _ (Turn.of_below (bnext hb hb1)) (fun k hk => by cases hk), hsz⟩
    · unfold openJ jc
      simpa [jc, beginJ] using hB
    · rw [newBy_new hsz, if_pos rfl]
    · rw [newBy_new hk, if_neg (by omega)]
  generalize cont D base size = C at *
  have HL : Hid (∀ w1 v, OutL w.heap.size w1 v (scan C gen).1 → ∃ a c, v = .slice a (scan C gen).1.length c) := fun w1 v ho => by
    obtain ⟨qs, q1, q2, q3⟩ := ho
    obtain ⟨a, c, rfl⟩ := q1.len
    exact ⟨a, c, by rw [← q2, LL_len]⟩
  generalize (scan C gen).2 = T at *
  generalize hll : (scan C gen).1.length = CN at *
  have HB9 : Hid (∀ w1 : World, Blk (w1.alloc (.cells (jc b (beginJ C base size gen)).toArray 97)) w1.heap.size 97 (jc b (beginJ C base size gen))) := fun w1 => blk_new w1 _ 97
  have H49' : Hid (Calls Tryd.prog 65 #[ptr b, .int .i64 (base : Int), .int .i64 (size : Int), .int .u32 gen] w fun r w' => ∃ w1 v, r = .returned (.tuple #[ptr w1.heap.size, v, .int .i64 (T : Int), .int .i64 0]) ∧ OutL w.heap.size w1 v (scan C gen).1 ∧ Below w.heap.size w w1 ∧ w' = w1.alloc (.cells (jc b (beginJ C base size gen)).toArray 97)) := H49
  clear H49 h hk hse hoct hlen hll
  go_enter Tryd.func46, Tryd.ntmps46
  go_wp2_with (go_at_call 65; go_must (refine H49'.out.mono ?_; rintro r w2 ⟨w1, v1, rfl, ho1, hb1, hw2⟩; have HP := HPost.out w1 v1 ho1 hb1; obtain ⟨a1, c1, hv1⟩ := HL.out w1 v1 ho1; subst hv1; have hB9 := HB9.out w1; rw [← hw2] at HP hB9; have l1 : w2.cell? ⟨w1.heap.size, 3, none⟩ = some (.int .i64 (base : Int)) := hB9.cell 3 _ rfl; have l2 := hB9.frozen 3; have l3 : w2.cell? ⟨w1.heap.size, 5, none⟩ = some (.int .i64 0) := hB9.cell 5 _ rfl; have l4 := hB9.frozen 5; have HP' : Hid _ := HP; clear HP hB9 ho1 hb1 hw2))
  refine bodyPost_ret (results_tmp3 rfl _ _ _) rfl ⟨_, _, rfl, HP'.out⟩
theorem create_bad (h : DIs w o j b D) (hl : D.now.length ≤ 400) {base size gen : Int} (hb : I64 base) (hs : I64 size) (hg : U32 gen) (hk : wrongK D base size gen ≠ 0) : Calls Tryd.prog 49 #[ptr b, .int .i64 base, .int .i64 size, .int .u32 gen] w fun r w' => r = .returned (.tuple #[.pointer none, .int .i64 (wrongK D base size gen)]) ∧ w' = w := by
  have H49 : Hid (Calls Tryd.prog 65 #[ptr b, .int .i64 base, .int .i64 size, .int .u32 gen] w fun r w' => r = .returned (.tuple #[.pointer none, nilv, .int .i64 0, .int .i64 (wrongK D base size gen)]) ∧ w' = w) := begin_bad h hl hb hs hg hk
  generalize wrongK D base size gen = K at *
  unfold nilv at *
  clear h hk
  go_enter Tryd.func49, Tryd.ntmps49
  go_wp2_with (go_at_call 65; go_must (refine H49.out.mono ?_; rintro r w2 ⟨rfl, hw2⟩; replace hw2 := hw2.symm; subst hw2))
  refine bodyPost_ret (results_tmp2 rfl _ _ _) rfl ⟨rfl, rfl⟩
theorem create_nil (w : World) : Calls Tryd.prog 49 #[.pointer none, .int .i64 0, .int .i64 1, .int .u32 1] w fun r w' => r = .returned (.tuple #[.pointer none, .int .i64 23]) ∧ w' = w := by
  have H49 : Hid (Calls Tryd.prog 65 #[.pointer none, .int .i64 0, .int .i64 1, .int .u32 1] w fun r w' => r = .returned (.tuple #[.pointer none, nilv, .int .i64 0, .int .i64 23]) ∧ w' = w) := begin_nil w
  unfold nilv at *
  go_enter Tryd.func49, Tryd.ntmps49
  go_wp2_with (go_at_call 65; go_must (refine H49.out.mono ?_; rintro r w2 ⟨rfl, hw2⟩; replace hw2 := hw2.symm; subst hw2))
  refine bodyPost_ret (results_tmp2 rfl _ _ _) rfl ⟨rfl, rfl⟩
theorem create_range (h : DIs w o j b D) (hl : D.now.length ≤ 400) {base size : Nat} {gen : Int} (hg : U32 gen) (hk : wrongK D base size gen = 0) (hr : latest (cont D base size) gen = 4294967295) : Calls Tryd.prog 49 #[ptr b, .int .i64 (base : Int), .int .i64 (size : Int), .int .u32 gen] w fun r w' => r = .returned (.tuple #[.pointer none, .int .i64 2]) ∧ Below w.heap.size w w' := by
  have H49 : Hid (Calls Tryd.prog 65 #[ptr b, .int .i64 (base : Int), .int .i64 (size : Int), .int .u32 gen] w fun r w' => r = .returned (.tuple #[.pointer none, nilv, .int .i64 0, .int .i64 2]) ∧ Below w.heap.size w w') := begin_range h hl hg hk hr
  have hbs := (begin_calls h hl hg hk).2.1
  unfold nilv at *
  clear h hk
  go_enter Tryd.func49, Tryd.ntmps49
  go_wp2_with (go_at_call 65; go_must (refine H49.out.mono ?_; rintro r w2 ⟨rfl, hb2⟩; have HB2 : Hid (Below w.heap.size w w2) := hb2; clear hb2))
  refine bodyPost_ret (results_tmp2 rfl _ _ _) rfl ⟨rfl, HB2.out⟩
theorem create_ok (h : DIs w o j b D) (hl : D.now.length ≤ 400) {base size : Nat} {gen : Int} (hg : U32 gen) (hk : wrongK D base size gen = 0) (hr : latest (cont D base size) gen ≠ 4294967295) (jj : Nat) : Calls Tryd.prog 49 #[ptr b, .int .i64 (base : Int), .int .i64 (size : Int), .int .u32 gen] w fun r w' => ∃ jb, r = .returned (.tuple #[ptr jb, .int .i64 0]) ∧ ∃ o', JAt w' o' jj jb b (beginJ (cont D base size) base size gen) ∧ Mv [] w o w' o' ∧ w.heap.size ≤ jb := by
  have H49 := begin_ok h hl hg hk hr
  have hbs := (begin_calls h hl hg hk).2.1
  generalize cont D base size = C at *
  generalize (scan C gen).2 = T at *
  have HPost : Hid (∀ w1 w2, Below w.heap.size w w1 → w2 = w1.alloc (.cells (jc b (beginJ C base size gen)).toArray 97) → ∃ o', JAt w2 o' jj w1.heap.size b (beginJ C base size gen) ∧ Mv [] w o w2 o' ∧ w.heap.size ≤ w1.heap.size) := fun w1 w2 hb e => by
    subst e
    have hsz := hb.size
    refine ⟨newBy o w (fun k => if k = w1.heap.size then jj else 0), ⟨blk_new w1 _ 97, ?_⟩, Mv.of_turn' (ft := []) _ (Turn.of_below (bnext hb (balloc (Below.refl _ _) _))) (fun k hk => by cases hk), hsz⟩
    rw [newBy_new hsz, if_pos rfl]
  have H49' : Hid (Calls Tryd.prog 65 #[ptr b, .int .i64 (base : Int), .int .i64 (size : Int), .int .u32 gen] w fun r w' => ∃ w1 v, r = .returned (.tuple #[ptr w1.heap.size, v, .int .i64 (T : Int), .int .i64 0]) ∧ OutL w.heap.size w1 v (scan C gen).1 ∧ Below w.heap.size w w1 ∧ w' = w1.alloc (.cells (jc b (beginJ C base size gen)).toArray 97)) := H49
  clear H49 h hk
  go_enter Tryd.func49, Tryd.ntmps49
  go_wp2_with (go_at_call 65; go_must (refine H49'.out.mono ?_; rintro r w2 ⟨w1, v1, rfl, ho1, hb1, hw2⟩; have HP := HPost.out w1 w2 hb1 hw2; obtain ⟨q1, q11, _⟩ := ho1; obtain ⟨a1, c1, hv1⟩ := q11.len; subst hv1; have HP' : Hid _ := HP; clear HP hb1 hw2 q11))
  refine bodyPost_ret (results_tmp2 rfl _ _ _) rfl ⟨_, rfl, HP'.out⟩
end
end Go.Proofs.YtkcighejmjgalaaDoor
