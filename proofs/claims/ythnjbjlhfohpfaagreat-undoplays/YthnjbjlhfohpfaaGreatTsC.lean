/-
  Write and Set of the program.
-/
import Derived.Test.YthnjbjlhfohpfaaGreatTsB
namespace Go.Proofs.YthnjbjlhfohpfaaGreat
set_option linter.unusedVariables false
set_option linter.unusedSimpArgs false
set_option synthInstance.maxSize 20000
set_option maxHeartbeats 2000000
set_option maxRecDepth 20000
open Go.RowKit Go.Maps

section
variable {w : World} {tb : Nat} {mo : Option Nat} {L : List IT}
theorem apart_op {w : World} {B0 g : Nat} {q : OpT} {x : IT} (h : Opb w B0 q) (hi : Itp w g x) : B0 ≠ g := fun e => by
  have h2 := hi
  have h3 := h
  unfold Itp Blk at h2
  unfold Opb Blk at h3
  rw [e, h2] at h3
  injection h3 with h3
  injection h3 with _ h4
  simp at h4
set_option maxHeartbeats 8000000 in
theorem write35 (h : PTr w tb mo L) (few : L.length ≤ 200) {q : OpT} (hr : rightO q = true) (hk : q.k = 4) (hq : Rd w q.v q.b) (hql : q.b.length ≤ 1000) : Calls Tryz.prog 97 #[ptr tb, ov q] w (StepAns w tb mo L q) := by
  have HH : Hid (PTr w tb mo L) := h
  have HFew : Hid (L.length ≤ 200) := few
  have HRq : Hid (Rd w q.v q.b ∧ q.b.length ≤ 1000) := ⟨hq, hql⟩
  have hno : SOk q.n := rightB_ok (rightO_n hr).1
  have hc : chM (L.map IT.m) q = match findM (L.map IT.m) q.n with | none => none | some x => if x.d = true then none else some (wriI x q) := by
    unfold chM
    rw [if_neg (by omega)]
    cases findM (L.map IT.m) q.n with
    | none => rfl
    | some x => dsimp only; rw [if_neg (by omega), if_neg (by omega)]
  have HC : Hid (chM (L.map IT.m) q = match findM (L.map IT.m) q.n with | none => none | some x => if x.d = true then none else some (wriI x q)) := hc
  have HF : Hid (∀ w', Below w.heap.size w w' → Calls Tryz.prog 40 #[ptr tb, sv q.n] w' (GetAns w' L q.n)) := fun w' hb => look42 (h.below hb) hno
  clear h few hr hk hc hno hq hql
  obtain ⟨w1, hw1⟩ : ∃ w1, w1 = w.alloc (.cells (oc q).toArray 38) := ⟨_, rfl⟩
  obtain ⟨B0, hB0⟩ : ∃ B0, B0 = w.heap.size := ⟨_, rfl⟩
  obtain ⟨i1, i2⟩ := box_op hw1 hB0
  have HB1 : Hid (Below w.heap.size w w1) := i1
  have HQ : Hid (Opb w1 B0 q) := i2
  have HQn : Hid (w1.rangeAt B0 3 (sc q.n)) := i2.node
  clear i1 i2
  unfold StepAns
  go_enter Tryz.func97, Tryz.ntmps97
  go_upto_region 1 with (refine wpList_okw rfl (exec_box40 (q := q) (.tmp 1) rfl rfl) ?_)
  rw [← hw1, ← hB0]
  clear hw1 hB0
  go_upto_region 2 with (first
    | (refine wpList_okw rfl (exec_load24n (n := q.n) (.tmp 9) rfl rfl HQn.out) ?_)
    | (go_at_call 40; go_must (refine (HF.out _ HB1.out).mono ?_; rintro r w2 ⟨x, b, rfl, hgt, hb2⟩; have HG : Hid (GotT w2 L q.n x b) := hgt; have HB12 : Hid (Below w1.heap.size w1 w2) := hb2; have HBz : Hid (Below w.heap.size w w2) := bnext HB1.out hb2; clear hb2 hgt; obtain ⟨w3, hw3⟩ : ∃ w3, w3 = w2.alloc (.cells (ic zT).toArray 61) := ⟨_, rfl⟩; obtain ⟨g, hg⟩ : ∃ g, g = w2.heap.size := ⟨_, rfl⟩; have HT3 : Hid (w3.there g 0 10) := (show _ from by rw [hw3, hg]; exact (itp_new w2 zT).there); have HW3 : Hid (w3 = w2.alloc (.cells (ic zT).toArray 61)) := hw3; have HGG : Hid (g = w2.heap.size) := hg; clear hw3 hg; have tk1 : Hid True := trivial; have tk2 : Hid True := trivial)) | (clear tk1; refine wpList_okw rfl (exec_alloc35 rfl) ?_; rw [← HW3.out, ← HGG.out]) | (clear tk2; refine wpList_skipw rfl (exec_store35 (q := x) (.tmp 5) (.tmp 12) rfl rfl rfl HT3.out) ?_; obtain ⟨w4, hw4⟩ : ∃ w4, w4 = w3.setCells g 0 (ic x) := ⟨_, rfl⟩; rw [← hw4]; obtain ⟨i1, i2, i3, i4⟩ := item_putp HBz.out HW3.out HGG.out hw4; have HI4 : Hid (Itp w4 g x) := i1; have HB4 : Hid (Below w.heap.size w w4) := i2; have HB24 : Hid (Below w2.heap.size w2 w4) := i3; have HGL : Hid (w.heap.size ≤ g) := i4; clear hw4 i1 i2 i3 i4 HT3 HW3 HGG))
  have HQ6 : Hid (Opb w4 B0 q) := HQ.out.below (bnext HB12.out HB24.out)
  clear HQ HQn HF
  cases b
  · have HCC : Hid (chM (L.map IT.m) q = none) := by
      show _ = _
      rw [HC.out]
      have := HG.out.is
      cases hf : findM (L.map IT.m) q.n with
      | none => rfl
      | some y => rw [hf] at this; cases this
    clear HC
    go_wp2
    go_ret
    exact ⟨rfl, step_none HH.out HB4.out HCC.out⟩
  · have HCx : Hid (chM (L.map IT.m) q = if x.m.d = true then none else some (wriI x.m q)) := by
      show _ = _
      rw [HC.out]
      have h1 := HG.out.is
      have h2 := HG.out.m
      cases hf : findM (L.map IT.m) q.n with
      | none => rw [hf] at h1; cases h1
      | some y => rw [hf] at h2; rw [h2]; rfl
    clear HC
    have c5 := Blk.cell HI4.out 5 _ rfl
    cases hd : x.m.d
    · rw [hd] at c5
      have HCC : Hid (chM (L.map IT.m) q = some (wriI x.m q)) := by show _ = _; rw [HCx.out, hd]; simp
      clear hd HCx
      go_upto_region 3 with fail
      have HFine : Hid (SOk x.m.n ∧ SOk x.m.p) := by have := HG.out.fine HH.out; exact this.2
      have HQz : Hid (∀ w', w4.grownBy w' (some g) → Opb w' B0 q) := fun w' hg => Blk.past HQ6.out hg (apart_op HQ6.out HI4.out)
      clear c5
      have c9 := fun z : WIn (fun w' => w4.grownBy w' (some g)) => Blk.cell (HQz.out z.w z.ok) 9 _ rfl
      have ne : Nonempty (WIn (fun w' => w4.grownBy w' (some g))) := ⟨⟨w4, grown_refl _ _⟩⟩
      refine wp_region_ord (C := fun w' => ∃ z : WIn (fun w' => w4.grownBy w' (some g)), w' = z.w) [(false, 0), (false, 1), (false, 2), (false, 3), (false, 4), (true, 5), (false, 6), (true, 7)] (by kernel_rfl) (by kernel_rfl) ⟨⟨w4.drew, grown_drew (grown_refl _ _)⟩, rfl⟩ ?_
      obtain ⟨w7, hw7⟩ : ∃ w7, w7 = w4.drew := ⟨_, rfl⟩
      have HI7 : Hid (Itp w7 g x) := by show Itp _ _ _; rw [hw7]; exact HI4.out
      have HG7 : Hid (w4.grownBy w7 (some g)) := by show World.grownBy _ _ _; rw [hw7]; exact grown_drew (grown_refl _ _)
      obtain ⟨w8, hw8⟩ : ∃ w8, w8 = w7.setCell ⟨g, 7, none⟩ (.slice q.va q.vn q.vc) := ⟨_, rfl⟩
      obtain ⟨w9, hw9⟩ : ∃ w9, w9 = w8.setCells g 8 (sc q.a) := ⟨_, rfl⟩
      have hI8 := HI7.out.setData (a := q.va) (n := q.vn) (c := q.vc) (l := q.b)
      rw [← hw8] at hI8
      have hI9 := hI8.setBy (p := q.a)
      rw [← hw9] at hI9
      have HG8 : Hid (w4.grownBy w8 (some g)) := by show World.grownBy _ _ _; rw [hw8]; exact grown_trans HG7.out (grown_setCell _ _ _ _) (fun k hk => .inl hk)
      have HG9 : Hid (w4.grownBy w9 (some g)) := by show World.grownBy _ _ _; rw [hw9]; exact grown_trans HG8.out (grown_setCells _ _ _ _) (fun k hk => .inl hk)
      have HC7 : Hid (w7.cell? ⟨g, 7, none⟩ = some (.slice x.a x.vn x.vc) ∧ w7.frozen? ⟨g, 7, none⟩ = false) := ⟨Blk.cell HI7.out 7 _ rfl, Blk.frozen HI7.out 7⟩
      have HT8 : Hid (w8.there g 8 2) := Blk.there hI8 8 2 (by rw [ic_len]; omega)
      obtain ⟨y, hy⟩ : ∃ y : IT, y = ⟨wriI x.m q, q.va, q.vn, q.vc⟩ := ⟨_, rfl⟩
      have HIa : Hid (Itp w9 g y) := by show Itp _ _ _; rw [hy]; exact hI9
      have HY : Hid (y.m = wriI x.m q) := by show _ = _; rw [hy]
      have HW7 : Hid (w7 = w4.drew) := hw7
      have HW8 : Hid (w8 = w7.setCell ⟨g, 7, none⟩ (.slice q.va q.vn q.vc)) := hw8
      have HW9 : Hid (w9 = w8.setCells g 8 (sc q.a)) := hw9
      have HBa : Hid (Below w.heap.size w w9) := bgrown HB4.out HGL.out HG9.out
      have HRa : Hid (Rd w9 y.v y.m.b) := by
        show Rd _ _ _
        rw [hy]
        exact rd_pastitp (HRq.out.1.below HB4.out) HI4.out HG9.out
      have HPut : Hid (Calls Tryz.prog 93 #[ptr tb, iv y] w9 fun e w' => e = .returned (.tuple #[]) ∧ ∃ mo' L', PTr w' tb mo' L' ∧ L'.map IT.m = putM (L.map IT.m) (wriI x.m q) ∧ Tw tb mo w9 w' mo') := by
        have := put56 (HH.out.below HBa.out) y HRa.out (by rw [hy]; exact HRq.out.2) (by rw [hy]; exact HFine.out.1) (by rw [hy]; exact HFine.out.2) (by have := HFew.out; omega)
        rw [show y.m = wriI x.m q from HY.out] at this
        exact this
      have HRg : Hid (w9.rangeAt g 0 (ic y)) := HIa.out.range
      clear hw7 hw8 hw9 hI8 hI9 hy
      rw [← HW7.out]
      iterate 3 (refine ord_still rfl rfl ?_; go_big_quiet_step (fail); refine wpQuiet_nil ?_)
      refine ord_still rfl rfl ?_
      refine quiet_ok1 rfl (fun w' hw' => by obtain ⟨z, rfl⟩ := hw'; exact exec_load24n (n := q.a) (.tmp 22) rfl rfl (HQz.out z.w z.ok).at) ?_
      go_simp
      refine ord_still rfl rfl ?_; go_big_quiet_step (fail); refine wpQuiet_nil ?_
      refine ord_mem rfl rfl ?_
      refine wp_skip (exec_store33 (.tmp 24) (.tmp 21) rfl rfl rfl HC7.out.1 HC7.out.2) ?_
      rw [← HW8.out]
      refine ⟨⟨⟨w8, HG8.out⟩, rfl⟩, ?_⟩
      go_simp
      refine ord_still rfl rfl ?_; go_big_quiet_step (fail); refine wpQuiet_nil ?_
      refine ord_mem rfl rfl ?_
      refine wp_skip (exec_store24n (n := q.a) (.tmp 25) (.tmp 23) rfl rfl rfl HT8.out) ?_
      rw [← HW9.out]
      refine ⟨⟨⟨w9, HG9.out⟩, rfl⟩, ?_⟩
      go_simp
      refine ord_end ?_
      clear ne c9
      go_wp2_with (first
        | (refine wpList_okw rfl (exec_load35 (q := y) (.tmp 5) rfl rfl HRg.out) ?_)
        | (go_at_call 93; go_must (refine HPut.out.mono ?_; rintro r wb ⟨rfl, mo', L', h5, hm5, ht5⟩; have HPb : Hid (PTr wb tb mo' L') := h5; have HMb : Hid (L'.map IT.m = putM (L.map IT.m) (wriI x.m q)) := hm5; have HTb : Hid (Tw tb mo w9 wb mo') := ht5; clear h5 hm5 ht5)))
      go_ret
      exact ⟨rfl, step_some HBa.out HPb.out HMb.out HTb.out HCC.out⟩
    · rw [hd] at c5
      have HCC : Hid (chM (L.map IT.m) q = none) := by show _ = _; rw [HCx.out, hd]; simp
      clear hd HCx
      go_wp2
      go_ret
      exact ⟨rfl, step_none HH.out HB4.out HCC.out⟩
theorem exec_delete {o : Oper} {r : Operand → Value} {w w' : World} {mo : Option Nat} {n : S} (x y : Operand) (ho : o.op = .call { callee := .builtin .delete, args := #[x, y], argTypes := #[89, 35] }) (hx : r x = .map mo) (hy : r y = sv n) (hrun : (Builtin.delete_ #[89, 35] o.type #[.map mo, sv n]).run Tryz.prog w = .ok (.tuple #[]) w') : (execOp r o).run Tryz.prog w = .ok (.value (.tuple #[])) w' := by
  unfold execOp
  simp [ho, resolve, invoke, builtin, hx, hy, hrun, Result.andThen]
theorem drop_nil (w : World) {n : S} (hn : SOk n) (ty : TypeId) : (Builtin.delete_ #[89, 35] ty #[.map none, sv n]).run Tryz.prog w = .ok (.tuple #[]) w := by
  have hc := keyed24.check w true (key24 hn)
  simp [Builtin.delete_, run_underlying under68, hc, Result.andThen]
/-- The map stays where there is none to be put. -/
def StaysM (b : Bool) (mo mo' : Option Nat) : Prop := b = false → mo' = mo
set_option maxHeartbeats 4000000 in
theorem set30p (h : PTr w tb mo L) (it : IT) (hit : Rd w it.v it.m.b) (hl : it.m.b.length ≤ 1000) (hn : rightB it.m.n = true) (hp : SOk it.m.p) (few : L.length ≤ 500) (there : Bool) : Calls Tryz.prog 76 #[ptr tb, iv it, .bool there] w fun e w' => e = .returned (.int .i64 0) ∧ ∃ mo' L', PTr w' tb mo' L' ∧ L'.map IT.m = setM (L.map IT.m) it.m there ∧ Tw tb mo w w' mo' ∧ StaysM there mo mo' := by
  have HH : Hid (PTr w tb mo L) := h
  have HNo : Hid (SOk it.m.n) := rightB_ok hn
  obtain ⟨w1, hw1⟩ : ∃ w1, w1 = w.alloc (.cells (ic it).toArray 61) := ⟨_, rfl⟩
  obtain ⟨B0, hB0⟩ : ∃ B0, B0 = w.heap.size := ⟨_, rfl⟩
  have HB1 : Hid (Below w.heap.size w w1) := by show Below _ _ _; rw [hw1]; exact balloc (Below.refl _ _) _
  have HI1 : Hid (Itp w1 B0 it) := by show Itp _ _ _; rw [hw1, hB0]; exact itp_new w it
  have HR : Hid (∀ w', Calls Tryz.prog 58 #[sv it.m.n] w' fun e w'' => e = .returned (.bool true) ∧ Below w'.heap.size w' w'') := fun w' => by
    have := right43 it.m.n w'
    rwa [hn] at this
  have HIn : Hid (w1.rangeAt B0 0 (sc it.m.n)) := HI1.out.node
  have HPut : Hid (∀ w', Below w.heap.size w w' → Calls Tryz.prog 93 #[ptr tb, iv it] w' fun e w'' => e = .returned (.tuple #[]) ∧ ∃ mo' L', PTr w'' tb mo' L' ∧ L'.map IT.m = putM (L.map IT.m) it.m ∧ Tw tb mo w' w'' mo') := fun w' hb => put56 (h.below hb) it (hit.below hb) hl (rightB_ok hn) hp few
  clear hit hl hn hp few h
  go_enter Tryz.func76, Tryz.ntmps76
  go_upto_region 1 with (refine wpList_okw rfl (exec_box35 (q := it) (.tmp 1) rfl rfl) ?_)
  rw [← hw1, ← hB0]
  clear hw1 hB0
  cases there
  · go_upto_region 7 with (first
      | (refine wpList_okw rfl (exec_load24n (n := it.m.n) (.tmp 9) rfl rfl HIn.out) ?_)
      | (go_at_call 58; go_must (refine (HR.out _).mono ?_; rintro r w2 ⟨rfl, hb2⟩; have HB2 : Hid (Below w1.heap.size w1 w2) := hb2; clear hb2)))
    have HP2 : Hid (PTr w2 tb mo L) := HH.out.below (bnext HB1.out HB2.out)
    have hdel : ∃ w3 L', (Builtin.delete_ #[89, 35] 0 #[.map mo, sv it.m.n]).run Tryz.prog w2.drew = .ok (.tuple #[]) w3 ∧ PTr w3 tb mo L' ∧ L'.map IT.m = delM (L.map IT.m) it.m.n ∧ Tw tb mo w2 w3 mo ∧ w2.grownBy w3 mo := by
      have hP := HP2.out
      rcases hP.mp with ⟨rfl, rfl⟩ | ⟨mb, rfl, hm⟩
      · exact ⟨w2.drew, [], drop_nil _ HNo.out 0, hP.below (below_drewn w2 1), rfl, Tw.of_below (below_drewn w2 1), below_grown (below_drewn w2 1)⟩
      · have hm' : MapT w2.drew mb L := hm
        obtain ⟨w3, hrun, hmt, hg⟩ := hm'.drop hP.okL hP.srt it HNo.out 0
        have hg2 : w2.grownBy w3 (some mb) := ⟨hg.os, hg.tape, hg.output, hg.size, hg.block⟩
        have hne : tb ≠ mb := fun e => hm.nocell (e ▸ hP.blk.cell 0 _ rfl)
        refine ⟨w3, _, hrun, ⟨hP.blk.past hg2 hne, .inr ⟨mb, rfl, hmt⟩, fun z hz => hP.ok z (delT_iff.1 hz).1, fun z hz => rd_pastmap (hP.rd z (delT_iff.1 hz).1) hm hg2, ?_, ?_⟩, setT_map _ _ _, ⟨hg.os, hg.tape, hg.output, hg.size, fun k hk _ h2 => hg.block k hk (fun e => h2 e.symm), .inl rfl, fun _ e => e⟩, hg2⟩
        · rw [setT_map]; exact setM_srt hP.srt _ _
        · have h1 := delT_len hP.srt it
          have h2 := hP.few
          omega
    obtain ⟨w3, L', hrun, hP3, hM3, hT3, hG3⟩ := hdel
    have HRUN : Hid ((Builtin.delete_ #[89, 35] 0 #[.map mo, sv it.m.n]).run Tryz.prog w2.drew = .ok (.tuple #[]) w3) := hrun
    have HP3 : Hid (PTr w3 tb mo L') := hP3
    have HM3 : Hid (L'.map IT.m = delM (L.map IT.m) it.m.n) := hM3
    have HT3 : Hid (Tw tb mo w2 w3 mo) := hT3
    have HG3 : Hid (w2.grownBy w3 mo) := hG3
    clear hrun hP3 hM3 hT3 hG3
    have HTz : Hid (∀ w', w2.grownBy w' mo → Blk w' tb 91 [.map mo]) := fun w' hg => by
      refine HP2.out.blk.past' hg fun e => ?_
      rcases HP2.out.mp with ⟨e1, _⟩ | ⟨mb, e1, hm⟩
      · rw [e1] at e; cases e
      · rw [e1] at e; cases e
        exact hm.nocell (HP2.out.blk.cell 0 _ rfl)
    have HIz : Hid (∀ w', w2.grownBy w' mo → w'.rangeAt B0 0 (sc it.m.n)) := fun w' hg => by
      have h2 : Itp w2 B0 it := HI1.out.below HB2.out
      have h3 := (HP2.out.apart (Blk.cell h2 0 _ rfl) (fun m => by simp)).2
      exact Itp.node (Blk.past' h2 hg h3)
    have t2 := fun z : WIn (fun w' => w2.grownBy w' mo) => (HTz.out z.w z.ok).cell 0 _ rfl
    have ne : Nonempty (WIn (fun w' => w2.grownBy w' mo)) := ⟨⟨w2, grown_refl _ _⟩⟩
    refine wp_region_ord (C := fun w' => ∃ z : WIn (fun w' => w2.grownBy w' mo), w' = z.w) [(false, 0), (false, 1), (false, 2), (false, 3), (false, 4), (false, 5), (true, 6)] (by kernel_rfl) (by kernel_rfl) ⟨⟨w2.drew, grown_drew (grown_refl _ _)⟩, rfl⟩ ?_
    iterate 5 (refine ord_still rfl rfl ?_; go_big_quiet_step (fail); refine wpQuiet_nil ?_)
    refine ord_still rfl rfl ?_
    refine quiet_ok1 rfl (fun w' hw' => by obtain ⟨z, rfl⟩ := hw'; exact exec_load24n (n := it.m.n) (.tmp 21) rfl rfl (HIz.out z.w z.ok)) ?_
    go_simp
    refine ord_mem rfl rfl ?_
    refine wp_ok (exec_delete (mo := mo) (n := it.m.n) (.tmp 20) (.tmp 22) rfl rfl rfl HRUN.out) ?_
    refine ⟨⟨⟨w3, HG3.out⟩, rfl⟩, ?_⟩
    go_simp
    refine ord_end ?_
    clear ne t2
    go_wp2
    go_ret
    exact ⟨rfl, mo, L', HP3.out, HM3.out, (Tw.of_below (bnext HB1.out HB2.out)).trans HT3.out, fun _ => rfl⟩
  · have HIr : Hid (∀ w', Below w1.heap.size w1 w' → w'.rangeAt B0 0 (ic it)) := fun w' hb => (HI1.out.below hb).range
    go_wp2_with (first
      | (refine wpList_okw rfl (exec_load24n (n := it.m.n) (.tmp 9) rfl rfl HIn.out) ?_)
      | (go_at_call 58; go_must (refine (HR.out _).mono ?_; rintro r w2 ⟨rfl, hb2⟩; have HB2 : Hid (Below w1.heap.size w1 w2) := hb2; clear hb2; have HIr2 : Hid (w2.rangeAt B0 0 (ic it)) := HIr.out _ HB2.out))
      | (refine wpList_okw rfl (exec_load35 (q := it) (.tmp 4) rfl rfl HIr2.out) ?_)
      | (go_at_call 93; go_must (refine (HPut.out _ (bnext HB1.out HB2.out)).mono ?_; rintro r w3 ⟨rfl, mo', L', h5, hm5, ht5⟩; have HPb : Hid (PTr w3 tb mo' L') := h5; have HMb : Hid (L'.map IT.m = putM (L.map IT.m) it.m) := hm5; have HTb : Hid (Tw tb mo w2 w3 mo') := ht5; clear h5 hm5 ht5)))
    go_ret
    exact ⟨rfl, mo', L', HPb.out, by rw [HMb.out]; rfl, (Tw.of_below (bnext HB1.out HB2.out)).trans HTb.out, fun h => (by cases h)⟩
end
end Go.Proofs.YthnjbjlhfohpfaaGreat
