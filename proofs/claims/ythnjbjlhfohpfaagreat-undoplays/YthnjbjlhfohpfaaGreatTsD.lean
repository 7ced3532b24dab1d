/-
  The program's Do.
-/
import Derived.Test.YthnjbjlhfohpfaaGreatTsC
namespace Go.Proofs.YthnjbjlhfohpfaaGreat
set_option linter.unusedVariables false
set_option linter.unusedSimpArgs false
set_option synthInstance.maxSize 20000
set_option maxHeartbeats 2000000
set_option maxRecDepth 20000
open Go.RowKit Go.Maps

theorem results_cell_tmp2 {fn : Func} {p u v : Tmp} {ty : TypeId} (h : fn.results = #[.cell p ty, .tmp u, .tmp v]) (tmps : Array Value) (P : Program) (w : World) :
    (results fn tmps).run P w = ((asAddr (tmps.getD p undef)).run P w).andThen fun a w₁ => ((loadVar ty a).run P w₁).andThen fun x w₂ => .ok (.tuple #[x, tmps.getD u undef, tmps.getD v undef]) w₂ := by
  simp only [results, h]
  simp [Sem.run_bind, Result.andThen]
/-- The table of what an operation does. -/
def fnc (tb : Nat) : List Value := [.nilFunc, .func (.func 94) #[ptr tb] #[], .func (.func 95) #[ptr tb] #[], .func (.func 96) #[ptr tb] #[], .func (.func 97) #[ptr tb] #[]]
def fn0 : List Value := [.nilFunc, .nilFunc, .nilFunc, .nilFunc, .nilFunc]
theorem exec_alloc73 {o : Oper} {r : Operand → Value} {w : World} (ho : o.op = .alloc 141) : (execOp r o).run Tryz.prog w = .ok (.value (ptr w.heap.size)) (w.alloc (.cells fn0.toArray 141)) := by
  unfold execOp
  simp only [ho]
  go_simp
  rfl
theorem exec_store73 {o : Oper} {r : Operand → Value} {w : World} {b tb : Nat} (x y : Operand) (ho : o.op = .store 141 x y) (hx : r x = .pointer (some ⟨b, 0, none⟩)) (hy : r y = .agg (fnc tb).toArray) (ht : w.there b 0 5) : (execOp r o).run Tryz.prog w = .ok .skip (w.setCells b 0 (fnc tb)) := by
  have h := run_storeAt_mid (P := Tryz.prog) w b 0 141 (fnc tb).toArray (by simpa [fnc] using ht) (by kernel_rfl) (all_oneCell_toArray (fun u hu => by simp only [fnc, List.mem_cons, List.not_mem_nil, or_false] at hu; rcases hu with rfl | rfl | rfl | rfl | rfl <;> rfl))
  unfold execOp
  simp only [ho, hx, hy, Sem.run_bind, h, Result.andThen_ok, Sem.run_pure]
theorem fnc_put {w0 w w3 w4 : World} {g tb : Nat} (hb : Below w0.heap.size w0 w) (h3 : w3 = w.alloc (.cells fn0.toArray 141)) (hg : g = w.heap.size) (h4 : w4 = w3.setCells g 0 (fnc tb)) : Blk w4 g 141 (fnc tb) ∧ Below w0.heap.size w0 w4 ∧ Below w.heap.size w w4 := by
  subst h3 hg h4
  have h1 : Blk (w.alloc (.cells fn0.toArray 141)) w.heap.size 141 fn0 := blk_new w fn0 141
  have h2 := Blk.setCells h1 0 (fnc tb) (by simp [fnc, fn0])
  rw [splice_all _ _ (by simp [fnc, fn0])] at h2
  exact ⟨h2, below_put (balloc hb _) hb.size, below_put (balloc (Below.refl _ _) _) (Nat.le_refl _)⟩
theorem PTr.pastItp {w w' : World} {tb b : Nat} {mo : Option Nat} {L : List IT} {x : IT} (h : PTr w tb mo L) (hi : Itp w b x) (hg : w.grownBy w' (some b)) : PTr w' tb mo L := by
  have ha := h.apart (Blk.cell hi 0 _ rfl) (fun m => by simp)
  exact ⟨h.blk.past hg (fun e => ha.1 e.symm), h.mp.imp id (fun ⟨mb, e, hm⟩ => ⟨mb, e, hm.block (hg.block mb hm.lt (fun e2 => ha.2 (by rw [e]; exact e2)))⟩), h.ok, fun z hz => rd_pastitp (h.rd z hz) hi hg, h.srt, h.few⟩
theorem Tw.put {w w1 w2 : World} {tb b : Nat} {mo mo1 : Option Nat} (h : Tw tb mo w w1 mo1) (hg : w1.grownBy w2 (some b)) (hb : w.heap.size ≤ b) : Tw tb mo w w2 mo1 :=
  ⟨hg.os.trans h.os, hg.tape.trans h.tape, hg.output.trans h.output, Nat.le_trans h.size hg.size, fun k hk h1 h2 => (hg.block k (Nat.lt_of_lt_of_le hk h.size) (fun e => by cases e; omega)).trans (h.block k hk h1 h2), h.new, h.kept⟩
theorem Itp.ret11 {w : World} {b : Nat} {q : IT} {k j : Value} {tmps : Array Value} (h : Itp w b q) (h1 : tmps.getD 4 undef = ptr b) (h2 : tmps.getD 5 undef = k) (h3 : tmps.getD 6 undef = j) : (results Tryz.f77 tmps).run Tryz.prog w = .ok (.tuple #[iv q, k, j]) w := by
  rw [results_cell_tmp2 (show Tryz.f77.results = #[.cell 4 61, .tmp 5, .tmp 6] from rfl), h1, h2, h3]
  have e1 : (asAddr (ptr b)).run Tryz.prog w = .ok ⟨b, 0, none⟩ w := rfl
  rw [e1]
  simp only [Result.andThen_ok, h.load]
section
variable {w : World} {tb : Nat} {mo : Option Nat} {L : List IT}
theorem two_op {w w1 : World} {B0 B1 : Nat} {q : OpT} (hw1 : w1 = (w.alloc (.cells (oc q).toArray 38)).alloc (.cells (ic zT).toArray 61)) (h0 : B0 = w.heap.size) (h1 : B1 = w.heap.size + 1) :
    Below w.heap.size w w1 ∧ Opb w1 B0 q ∧ Itp w1 B1 zT ∧ w.heap.size ≤ B1 := by
  subst hw1 h0 h1
  refine ⟨balloc (balloc (Below.refl _ _) _) _, Blk.alloc (opb_new w q) _, ?_, by omega⟩
  have := itp_new (w.alloc (.cells (oc q).toArray 38)) zT
  simpa using this
/-- What Do answers, and what it leaves. -/
structure DoAns (w : World) (tb : Nat) (mo : Option Nat) (L : List IT) (q : OpT) (x : IT) (b : Bool) (k : Int) (w' : World) : Prop where
  m : x.m = if rightO q = true then (findM (L.map IT.m) q.n).getD zM else zM
  b : b = (rightO q && (findM (L.map IT.m) q.n).isSome)
  k : k = if rightO q = true then 0 else 1
  rd : Rd w' x.v x.m.b
  tree : ∃ mo' L', PTr w' tb mo' L' ∧ L'.map IT.m = doM (L.map IT.m) q ∧ Tw tb mo w w' mo'
set_option maxHeartbeats 8000000 in
theorem do11 (h : PTr w tb mo L) (few : L.length ≤ 100) (hG : Gd (L.map IT.m)) (q : OpT) (hq : Rd w q.v q.b) (hql : q.b.length ≤ 1000) : Calls Tryz.prog 77 #[ptr tb, ov q] w fun e w' => ∃ x b k, e = .returned (.tuple #[iv x, .bool b, .int .i64 k]) ∧ DoAns w tb mo L q x b k w' := by
  have HH : Hid (PTr w tb mo L) := h
  have HRt : Hid (∀ w', Calls Tryz.prog 35 #[ov q] w' fun e w'' => e = .returned (.bool (rightO q)) ∧ Below w'.heap.size w' w'') := fun w' => right16 q w'
  have HSt : Hid (rightO q = true → ∀ w', Below w.heap.size w w' → (q.k = 1 → Calls Tryz.prog 94 #[ptr tb, ov q] w' (StepAns w' tb mo L q)) ∧ (q.k = 2 → Calls Tryz.prog 95 #[ptr tb, ov q] w' (StepAns w' tb mo L q)) ∧ (q.k = 3 → Calls Tryz.prog 96 #[ptr tb, ov q] w' (StepAns w' tb mo L q)) ∧ (q.k = 4 → Calls Tryz.prog 97 #[ptr tb, ov q] w' (StepAns w' tb mo L q))) := fun hr w' hb =>
    ⟨fun hk => create32 (h.below hb) (by omega) hr hk, fun hk => move33 (h.below hb) (by omega) hG hr hk, fun hk => remove34 (h.below hb) (by omega) hr hk, fun hk => write35 (h.below hb) (by omega) hr hk (hq.below hb) hql⟩
  clear few hG hq hql h
  obtain ⟨w1, hw1⟩ : ∃ w1, w1 = (w.alloc (.cells (oc q).toArray 38)).alloc (.cells (ic zT).toArray 61) := ⟨_, rfl⟩
  obtain ⟨B0, hB0⟩ : ∃ B0, B0 = w.heap.size := ⟨_, rfl⟩
  obtain ⟨B1, hB1⟩ : ∃ B1, B1 = w.heap.size + 1 := ⟨_, rfl⟩
  obtain ⟨i1, i2, i3, i4⟩ := two_op hw1 hB0 hB1
  have HB1 : Hid (Below w.heap.size w w1) := i1
  have HQ : Hid (Opb w1 B0 q) := i2
  have HZ : Hid (Itp w1 B1 zT) := i3
  have HBB : Hid (w.heap.size ≤ B1) := i4
  have HQl : Hid (w1.rangeAt B0 0 (oc q)) := Blk.range0 i2
  clear i1 i2 i3 i4
  go_enter Tryz.func77, Tryz.ntmps77
  go_upto_region 1 with (first | (refine wpList_okw rfl (exec_box40 (q := q) (.tmp 1) rfl rfl) ?_) | (refine wpList_okw rfl (exec_alloc35 rfl) ?_))
  rw [← hw1, ← hB1]
  rw [← hB0]
  clear hw1 hB0 hB1
  cases hr : rightO q
  · rw [hr] at HRt
    have HHr : Hid (rightO q = false) := hr
    clear hr HSt
    have HZ1 : Hid (∀ w', Below w1.heap.size w1 w' → Itp w' B1 zT) := fun w' hb => HZ.out.below hb
    go_upto_region 4 with (first
      | (refine wpList_okw rfl (exec_load40 (q := q) (.tmp 3) rfl rfl HQl.out) ?_)
      | (go_at_call 35; go_must (refine (HRt.out _).mono ?_; rintro r w2 ⟨rfl, hb2⟩; have HB2 : Hid (Below w1.heap.size w1 w2) := hb2; clear hb2)))
    have HZ2 : Hid (Itp w2 B1 zT) := HZ1.out _ HB2.out
    have HT2 : Hid (w2.there B1 0 10) := HZ2.out.there
    have HPx : Hid (Itp (w2.setCells B1 0 (ic zT)) B1 zT) := HZ2.out.put zT
    have HBx : Hid (Below w.heap.size w (w2.setCells B1 0 (ic zT))) := below_put (bnext HB1.out HB2.out) HBB.out
    clear HRt HQl HZ1
    go_wp2_with (first
      | (refine wpList_okw rfl (exec_zero35 rfl) ?_)
      | (refine wpList_skipw rfl (exec_store35 (q := zT) (.tmp 4) (.tmp 17) rfl rfl rfl HT2.out) ?_))
    refine bodyPost_ret (v := .tuple #[iv zT, .bool false, .int .i64 1]) (HPx.out.ret11 rfl rfl rfl) rfl ⟨zT, false, 1, rfl, ?_⟩
    exact ⟨by rw [HHr.out, if_neg (by simp)]; rfl, by rw [HHr.out]; rfl, by rw [HHr.out, if_neg (by simp)], rd_nil _, mo, L, HH.out.below HBx.out, by unfold doM; rw [HHr.out, if_neg (by simp)], Tw.of_below HBx.out⟩
  · rw [hr] at HRt
    have HHr : Hid (rightO q = true) := hr
    have hno : SOk q.n := rightB_ok (rightO_n hr).1
    have HGt : Hid (∀ w', Below w.heap.size w w' → Calls Tryz.prog 21 #[ptr tb, sv q.n] w' fun e w'' => ∃ x b, e = .returned (.tuple #[iv x, .bool b]) ∧ GotC w'.heap.size w'' L q.n x b ∧ Below w'.heap.size w' w'') := fun w' hb => get19 (HH.out.below hb) hno
    have hS := HSt.out hr
    have HS : Hid (∀ w', Below w.heap.size w w' → (q.k = 1 → Calls Tryz.prog 94 #[ptr tb, ov q] w' (StepAns w' tb mo L q)) ∧ (q.k = 2 → Calls Tryz.prog 95 #[ptr tb, ov q] w' (StepAns w' tb mo L q)) ∧ (q.k = 3 → Calls Tryz.prog 96 #[ptr tb, ov q] w' (StepAns w' tb mo L q)) ∧ (q.k = 4 → Calls Tryz.prog 97 #[ptr tb, ov q] w' (StepAns w' tb mo L q))) := hS
    clear hno hr hS HSt
    go_upto_region 5 with (first
      | (refine wpList_okw rfl (exec_load40 (q := q) (.tmp 3) rfl rfl HQl.out) ?_)
      | (go_at_call 35; go_must (refine (HRt.out _).mono ?_; rintro r w2 ⟨rfl, hb2⟩; have HB2 : Hid (Below w1.heap.size w1 w2) := hb2; clear hb2)))
    have HQ2 : Hid (Opb w2 B0 q) := HQ.out.below HB2.out
    have HQn : Hid (w2.rangeAt B0 3 (sc q.n)) := HQ2.out.node
    have HBy : Hid (Below w.heap.size w w2) := bnext HB1.out HB2.out
    clear HQl HRt
    go_upto_region 6 with (first
      | (refine wpList_okw rfl (exec_load24n (n := q.n) (.tmp 20) rfl rfl HQn.out) ?_)
      | (go_at_call 21; go_must (refine (HGt.out _ HBy.out).mono ?_; rintro r w3 ⟨x, b, rfl, hgt, hb3⟩; have HG : Hid (GotC w2.heap.size w3 L q.n x b) := hgt; have HB3 : Hid (Below w2.heap.size w2 w3) := hb3; have HBz : Hid (Below w.heap.size w w3) := bnext HBy.out hb3; clear hb3 hgt; obtain ⟨w4, hw4⟩ : ∃ w4, w4 = w3.alloc (.cells (ic zT).toArray 61) := ⟨_, rfl⟩; obtain ⟨g, hg⟩ : ∃ g, g = w3.heap.size := ⟨_, rfl⟩; have HT4 : Hid (w4.there g 0 10) := (show _ from by rw [hw4, hg]; exact (itp_new w3 zT).there); have HW4 : Hid (w4 = w3.alloc (.cells (ic zT).toArray 61)) := hw4; have HGG : Hid (g = w3.heap.size) := hg; clear hw4 hg; have tk1 : Hid True := trivial; have tk2 : Hid True := trivial))
      | (clear tk1; refine wpList_okw rfl (exec_alloc35 rfl) ?_; rw [← HW4.out, ← HGG.out])
      | (clear tk2; refine wpList_skipw rfl (exec_store35 (q := x) (.tmp 7) (.tmp 23) rfl rfl rfl HT4.out) ?_; obtain ⟨w5, hw5⟩ : ∃ w5, w5 = w4.setCells g 0 (ic x) := ⟨_, rfl⟩; rw [← hw5]; obtain ⟨i1, i2, i3, i4⟩ := item_putp HBz.out HW4.out HGG.out hw5; have HI5 : Hid (Itp w5 g x) := i1; have HB5 : Hid (Below w.heap.size w w5) := i2; have HB35 : Hid (Below w3.heap.size w3 w5) := i3; have HGL : Hid (w.heap.size ≤ g) := i4; clear hw5 i1 i2 i3 i4 HT4 HW4 HGG))
    obtain ⟨w6, hw6⟩ : ∃ w6, w6 = w5.alloc (.cells fn0.toArray 141) := ⟨_, rfl⟩
    obtain ⟨gb, hgb⟩ : ∃ gb, gb = w5.heap.size := ⟨_, rfl⟩
    obtain ⟨w7, hw7⟩ : ∃ w7, w7 = w6.setCells gb 0 (fnc tb) := ⟨_, rfl⟩
    obtain ⟨i1, i2, i3⟩ := fnc_put HB5.out hw6 hgb hw7
    have HF7 : Hid (Blk w7 gb 141 (fnc tb)) := i1
    have HB7 : Hid (Below w.heap.size w w7) := i2
    have HB57 : Hid (Below w5.heap.size w5 w7) := i3
    have HT6 : Hid (w6.there gb 0 5) := (show _ from by rw [hw6, hgb]; exact (blk_new w5 fn0 141).there 0 5 (by simp [fn0]))
    have HW6 : Hid (w6 = w5.alloc (.cells fn0.toArray 141)) := hw6
    have HGB : Hid (gb = w5.heap.size) := hgb
    have HW7 : Hid (w7 = w6.setCells gb 0 (fnc tb)) := hw7
    clear hw6 hgb hw7 i1 i2 i3
    have tk3 : Hid True := trivial
    have tk4 : Hid True := trivial
    go_upto_region 7 with (first
      | (clear tk3; refine wpList_okw rfl (exec_alloc73 rfl) ?_; rw [← HW6.out, ← HGB.out])
      | (clear tk4; refine wpList_skipw rfl (exec_store73 (tb := tb) (.tmp 9) (.tmp 33) rfl rfl rfl HT6.out) ?_; rw [← HW7.out]))
    clear HT6 HW6 HGB HW7
    have HQ7 : Hid (Opb w7 B0 q) := HQ2.out.below (bnext HB3.out (bnext HB35.out HB57.out))
    have HI7 : Hid (Itp w7 g x) := HI5.out.below HB57.out
    have HZ7 : Hid (Itp w7 B1 zT) := HZ.out.below (bnext HB2.out (bnext HB3.out (bnext HB35.out HB57.out)))
    have HR7 : Hid (Rd w7 x.v x.m.b) := HG.out.rd.below (bnext HB35.out HB57.out)
    have HP7 : Hid (PTr w7 tb mo L) := HH.out.below HB7.out
    have HFz : Hid (∀ w' mo', Tw tb mo w7 w' mo' → Opb w' B0 q ∧ Blk w' gb 141 (fnc tb)) := fun w' mo' ht => ⟨Tw.blk (v := .int .i64 q.k) ht HP7.out HQ7.out (fun m => by simp), Tw.blk (v := .nilFunc) ht HP7.out HF7.out (fun m => by simp)⟩
    have hkk := rightO_k HHr.out
    rcases hkk with hk | hk | hk | hk
    · have hst := (HS.out _ (bnext HB7.out (below_drewn w7 1))).1 hk
      have c0 := fun z : WIn (fun w' => Opb w' B0 q ∧ Blk w' gb 141 (fnc tb)) => Blk.cell z.ok.1 0 _ rfl
      rw [hk] at c0
      have c1 := fun z : WIn (fun w' => Opb w' B0 q ∧ Blk w' gb 141 (fnc tb)) => Blk.cell z.ok.2 1 _ rfl
      have ne : Nonempty (WIn (fun w' => Opb w' B0 q ∧ Blk w' gb 141 (fnc tb))) := ⟨⟨w7, HQ7.out, HF7.out⟩⟩
      have HST : Hid (Calls Tryz.prog 94 #[ptr tb, ov q] (w7.drewN 1) (StepAns (w7.drewN 1) tb mo L q)) := hst
      clear hst hk HS
      go_frame
      refine wp_region_ord (C := fun w' => ∃ z : WIn (fun w' => Opb w' B0 q ∧ Blk w' gb 141 (fnc tb)), w' = z.w) [(false, 0), (false, 1), (false, 2), (false, 3), (false, 4), (true, 5), (false, 6)] (by kernel_rfl) (by kernel_rfl) ⟨⟨w7.drew, HFz.out _ mo (Tw.of_below (below_drewn w7 1))⟩, rfl⟩ ?_
      iterate 4 (refine ord_still rfl rfl ?_; go_big_quiet_step (fail); refine wpQuiet_nil ?_)
      refine ord_still rfl rfl ?_
      refine quiet_ok1 rfl (fun w' hw' => by obtain ⟨z, rfl⟩ := hw'; exact exec_load40 (q := q) (.tmp 3) rfl rfl (Blk.range0 z.ok.1)) ?_
      go_simp
      refine ord_mem rfl rfl ?_
      go_simp
      refine HST.out.mono ?_
      rintro r w8 ⟨rfl, mo', L', hp, hm, ht⟩
      have HTw : Hid (Tw tb mo w7 w8 mo') := (Tw.of_below (below_drewn w7 1)).trans ht
      have HP8 : Hid (PTr w8 tb mo' L') := hp
      have HM8 : Hid (L'.map IT.m = stepM (L.map IT.m) q) := hm
      clear hp hm ht
      refine ⟨⟨⟨w8, HFz.out _ _ HTw.out⟩, rfl⟩, ?_⟩
      go_simp
      refine ord_still rfl rfl ?_; go_big_quiet_step (fail); refine wpQuiet_nil ?_
      refine ord_end ?_
      clear ne c0 c1 HST HFz
      have HI8 : Hid (Itp w8 g x) := Tw.itp HTw.out HP7.out HI7.out
      have HZ8 : Hid (Itp w8 B1 zT) := Tw.itp HTw.out HP7.out HZ7.out
      have HR8 : Hid (Rd w8 x.v x.m.b) := HTw.out.rd HP7.out HR7.out
      have HIr : Hid (w8.rangeAt g 0 (ic x)) := HI8.out.range
      have HT8 : Hid (w8.there B1 0 10) := HZ8.out.there
      have HPx : Hid (Itp (w8.setCells B1 0 (ic x)) B1 x) := HZ8.out.put x
      go_wp2_with (first
        | (refine wpList_okw rfl (exec_load35 (q := x) (.tmp 7) rfl rfl HIr.out) ?_)
        | (refine wpList_skipw rfl (exec_store35 (q := x) (.tmp 4) (.tmp 44) rfl rfl rfl HT8.out) ?_))
      refine bodyPost_ret (v := .tuple #[iv x, .bool b, .int .i64 0]) (HPx.out.ret11 rfl rfl rfl) rfl ⟨x, b, 0, rfl, ?_⟩
      have hg9 := grown_setCells B1 (ic x) 0 w8
      exact ⟨by rw [if_pos HHr.out]; exact HG.out.m, by rw [HHr.out]; exact HG.out.is, by rw [if_pos HHr.out], rd_pastitp HR8.out HZ8.out hg9, mo', L', HP8.out.pastItp HZ8.out hg9, by unfold doM; rw [if_pos HHr.out]; exact HM8.out, Tw.put ((Tw.of_below HB7.out).trans HTw.out) hg9 HBB.out⟩
    · have hst := (HS.out _ (bnext HB7.out (below_drewn w7 1))).2.1 hk
      have c0 := fun z : WIn (fun w' => Opb w' B0 q ∧ Blk w' gb 141 (fnc tb)) => Blk.cell z.ok.1 0 _ rfl
      rw [hk] at c0
      have c1 := fun z : WIn (fun w' => Opb w' B0 q ∧ Blk w' gb 141 (fnc tb)) => Blk.cell z.ok.2 2 _ rfl
      have ne : Nonempty (WIn (fun w' => Opb w' B0 q ∧ Blk w' gb 141 (fnc tb))) := ⟨⟨w7, HQ7.out, HF7.out⟩⟩
      have HST : Hid (Calls Tryz.prog 95 #[ptr tb, ov q] (w7.drewN 1) (StepAns (w7.drewN 1) tb mo L q)) := hst
      clear hst hk HS
      go_frame
      refine wp_region_ord (C := fun w' => ∃ z : WIn (fun w' => Opb w' B0 q ∧ Blk w' gb 141 (fnc tb)), w' = z.w) [(false, 0), (false, 1), (false, 2), (false, 3), (false, 4), (true, 5), (false, 6)] (by kernel_rfl) (by kernel_rfl) ⟨⟨w7.drew, HFz.out _ mo (Tw.of_below (below_drewn w7 1))⟩, rfl⟩ ?_
      iterate 4 (refine ord_still rfl rfl ?_; go_big_quiet_step (fail); refine wpQuiet_nil ?_)
      refine ord_still rfl rfl ?_
      refine quiet_ok1 rfl (fun w' hw' => by obtain ⟨z, rfl⟩ := hw'; exact exec_load40 (q := q) (.tmp 3) rfl rfl (Blk.range0 z.ok.1)) ?_
      go_simp
      refine ord_mem rfl rfl ?_
      go_simp
      refine HST.out.mono ?_
      rintro r w8 ⟨rfl, mo', L', hp, hm, ht⟩
      have HTw : Hid (Tw tb mo w7 w8 mo') := (Tw.of_below (below_drewn w7 1)).trans ht
      have HP8 : Hid (PTr w8 tb mo' L') := hp
      have HM8 : Hid (L'.map IT.m = stepM (L.map IT.m) q) := hm
      clear hp hm ht
      refine ⟨⟨⟨w8, HFz.out _ _ HTw.out⟩, rfl⟩, ?_⟩
      go_simp
      refine ord_still rfl rfl ?_; go_big_quiet_step (fail); refine wpQuiet_nil ?_
      refine ord_end ?_
      clear ne c0 c1 HST HFz
      have HI8 : Hid (Itp w8 g x) := Tw.itp HTw.out HP7.out HI7.out
      have HZ8 : Hid (Itp w8 B1 zT) := Tw.itp HTw.out HP7.out HZ7.out
      have HR8 : Hid (Rd w8 x.v x.m.b) := HTw.out.rd HP7.out HR7.out
      have HIr : Hid (w8.rangeAt g 0 (ic x)) := HI8.out.range
      have HT8 : Hid (w8.there B1 0 10) := HZ8.out.there
      have HPx : Hid (Itp (w8.setCells B1 0 (ic x)) B1 x) := HZ8.out.put x
      go_wp2_with (first
        | (refine wpList_okw rfl (exec_load35 (q := x) (.tmp 7) rfl rfl HIr.out) ?_)
        | (refine wpList_skipw rfl (exec_store35 (q := x) (.tmp 4) (.tmp 44) rfl rfl rfl HT8.out) ?_))
      refine bodyPost_ret (v := .tuple #[iv x, .bool b, .int .i64 0]) (HPx.out.ret11 rfl rfl rfl) rfl ⟨x, b, 0, rfl, ?_⟩
      have hg9 := grown_setCells B1 (ic x) 0 w8
      exact ⟨by rw [if_pos HHr.out]; exact HG.out.m, by rw [HHr.out]; exact HG.out.is, by rw [if_pos HHr.out], rd_pastitp HR8.out HZ8.out hg9, mo', L', HP8.out.pastItp HZ8.out hg9, by unfold doM; rw [if_pos HHr.out]; exact HM8.out, Tw.put ((Tw.of_below HB7.out).trans HTw.out) hg9 HBB.out⟩
    · have hst := (HS.out _ (bnext HB7.out (below_drewn w7 1))).2.2.1 hk
      have c0 := fun z : WIn (fun w' => Opb w' B0 q ∧ Blk w' gb 141 (fnc tb)) => Blk.cell z.ok.1 0 _ rfl
      rw [hk] at c0
      have c1 := fun z : WIn (fun w' => Opb w' B0 q ∧ Blk w' gb 141 (fnc tb)) => Blk.cell z.ok.2 3 _ rfl
      have ne : Nonempty (WIn (fun w' => Opb w' B0 q ∧ Blk w' gb 141 (fnc tb))) := ⟨⟨w7, HQ7.out, HF7.out⟩⟩
      have HST : Hid (Calls Tryz.prog 96 #[ptr tb, ov q] (w7.drewN 1) (StepAns (w7.drewN 1) tb mo L q)) := hst
      clear hst hk HS
      go_frame
      refine wp_region_ord (C := fun w' => ∃ z : WIn (fun w' => Opb w' B0 q ∧ Blk w' gb 141 (fnc tb)), w' = z.w) [(false, 0), (false, 1), (false, 2), (false, 3), (false, 4), (true, 5), (false, 6)] (by kernel_rfl) (by kernel_rfl) ⟨⟨w7.drew, HFz.out _ mo (Tw.of_below (below_drewn w7 1))⟩, rfl⟩ ?_
      iterate 4 (refine ord_still rfl rfl ?_; go_big_quiet_step (fail); refine wpQuiet_nil ?_)
      refine ord_still rfl rfl ?_
      refine quiet_ok1 rfl (fun w' hw' => by obtain ⟨z, rfl⟩ := hw'; exact exec_load40 (q := q) (.tmp 3) rfl rfl (Blk.range0 z.ok.1)) ?_
      go_simp
      refine ord_mem rfl rfl ?_
      go_simp
      refine HST.out.mono ?_
      rintro r w8 ⟨rfl, mo', L', hp, hm, ht⟩
      have HTw : Hid (Tw tb mo w7 w8 mo') := (Tw.of_below (below_drewn w7 1)).trans ht
      have HP8 : Hid (PTr w8 tb mo' L') := hp
      have HM8 : Hid (L'.map IT.m = stepM (L.map IT.m) q) := hm
      clear hp hm ht
      refine ⟨⟨⟨w8, HFz.out _ _ HTw.out⟩, rfl⟩, ?_⟩
      go_simp
      refine ord_still rfl rfl ?_; go_big_quiet_step (fail); refine wpQuiet_nil ?_
      refine ord_end ?_
      clear ne c0 c1 HST HFz
      have HI8 : Hid (Itp w8 g x) := Tw.itp HTw.out HP7.out HI7.out
      have HZ8 : Hid (Itp w8 B1 zT) := Tw.itp HTw.out HP7.out HZ7.out
      have HR8 : Hid (Rd w8 x.v x.m.b) := HTw.out.rd HP7.out HR7.out
      have HIr : Hid (w8.rangeAt g 0 (ic x)) := HI8.out.range
      have HT8 : Hid (w8.there B1 0 10) := HZ8.out.there
      have HPx : Hid (Itp (w8.setCells B1 0 (ic x)) B1 x) := HZ8.out.put x
      go_wp2_with (first
        | (refine wpList_okw rfl (exec_load35 (q := x) (.tmp 7) rfl rfl HIr.out) ?_)
        | (refine wpList_skipw rfl (exec_store35 (q := x) (.tmp 4) (.tmp 44) rfl rfl rfl HT8.out) ?_))
      refine bodyPost_ret (v := .tuple #[iv x, .bool b, .int .i64 0]) (HPx.out.ret11 rfl rfl rfl) rfl ⟨x, b, 0, rfl, ?_⟩
      have hg9 := grown_setCells B1 (ic x) 0 w8
      exact ⟨by rw [if_pos HHr.out]; exact HG.out.m, by rw [HHr.out]; exact HG.out.is, by rw [if_pos HHr.out], rd_pastitp HR8.out HZ8.out hg9, mo', L', HP8.out.pastItp HZ8.out hg9, by unfold doM; rw [if_pos HHr.out]; exact HM8.out, Tw.put ((Tw.of_below HB7.out).trans HTw.out) hg9 HBB.out⟩
    · have hst := (HS.out _ (bnext HB7.out (below_drewn w7 1))).2.2.2 hk
      have c0 := fun z : WIn (fun w' => Opb w' B0 q ∧ Blk w' gb 141 (fnc tb)) => Blk.cell z.ok.1 0 _ rfl
      rw [hk] at c0
      have c1 := fun z : WIn (fun w' => Opb w' B0 q ∧ Blk w' gb 141 (fnc tb)) => Blk.cell z.ok.2 4 _ rfl
      have ne : Nonempty (WIn (fun w' => Opb w' B0 q ∧ Blk w' gb 141 (fnc tb))) := ⟨⟨w7, HQ7.out, HF7.out⟩⟩
      have HST : Hid (Calls Tryz.prog 97 #[ptr tb, ov q] (w7.drewN 1) (StepAns (w7.drewN 1) tb mo L q)) := hst
      clear hst hk HS
      go_frame
      refine wp_region_ord (C := fun w' => ∃ z : WIn (fun w' => Opb w' B0 q ∧ Blk w' gb 141 (fnc tb)), w' = z.w) [(false, 0), (false, 1), (false, 2), (false, 3), (false, 4), (true, 5), (false, 6)] (by kernel_rfl) (by kernel_rfl) ⟨⟨w7.drew, HFz.out _ mo (Tw.of_below (below_drewn w7 1))⟩, rfl⟩ ?_
      iterate 4 (refine ord_still rfl rfl ?_; go_big_quiet_step (fail); refine wpQuiet_nil ?_)
      refine ord_still rfl rfl ?_
      refine quiet_ok1 rfl (fun w' hw' => by obtain ⟨z, rfl⟩ := hw'; exact exec_load40 (q := q) (.tmp 3) rfl rfl (Blk.range0 z.ok.1)) ?_
      go_simp
      refine ord_mem rfl rfl ?_
      go_simp
      refine HST.out.mono ?_
      rintro r w8 ⟨rfl, mo', L', hp, hm, ht⟩
      have HTw : Hid (Tw tb mo w7 w8 mo') := (Tw.of_below (below_drewn w7 1)).trans ht
      have HP8 : Hid (PTr w8 tb mo' L') := hp
      have HM8 : Hid (L'.map IT.m = stepM (L.map IT.m) q) := hm
      clear hp hm ht
      refine ⟨⟨⟨w8, HFz.out _ _ HTw.out⟩, rfl⟩, ?_⟩
      go_simp
      refine ord_still rfl rfl ?_; go_big_quiet_step (fail); refine wpQuiet_nil ?_
      refine ord_end ?_
      clear ne c0 c1 HST HFz
      have HI8 : Hid (Itp w8 g x) := Tw.itp HTw.out HP7.out HI7.out
      have HZ8 : Hid (Itp w8 B1 zT) := Tw.itp HTw.out HP7.out HZ7.out
      have HR8 : Hid (Rd w8 x.v x.m.b) := HTw.out.rd HP7.out HR7.out
      have HIr : Hid (w8.rangeAt g 0 (ic x)) := HI8.out.range
      have HT8 : Hid (w8.there B1 0 10) := HZ8.out.there
      have HPx : Hid (Itp (w8.setCells B1 0 (ic x)) B1 x) := HZ8.out.put x
      go_wp2_with (first
        | (refine wpList_okw rfl (exec_load35 (q := x) (.tmp 7) rfl rfl HIr.out) ?_)
        | (refine wpList_skipw rfl (exec_store35 (q := x) (.tmp 4) (.tmp 44) rfl rfl rfl HT8.out) ?_))
      refine bodyPost_ret (v := .tuple #[iv x, .bool b, .int .i64 0]) (HPx.out.ret11 rfl rfl rfl) rfl ⟨x, b, 0, rfl, ?_⟩
      have hg9 := grown_setCells B1 (ic x) 0 w8
      exact ⟨by rw [if_pos HHr.out]; exact HG.out.m, by rw [HHr.out]; exact HG.out.is, by rw [if_pos HHr.out], rd_pastitp HR8.out HZ8.out hg9, mo', L', HP8.out.pastItp HZ8.out hg9, by unfold doM; rw [if_pos HHr.out]; exact HM8.out, Tw.put ((Tw.of_below HB7.out).trans HTw.out) hg9 HBB.out⟩
end
end Go.Proofs.YthnjbjlhfohpfaaGreat
