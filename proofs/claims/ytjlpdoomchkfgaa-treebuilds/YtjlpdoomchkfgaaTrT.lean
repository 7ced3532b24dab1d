/-
  The program's tree in memory; what is looked up in it.
-/
import Derived.Test.YtjlpdoomchkfgaaTrN
import Derived.Test.YtjlpdoomchkfgaaRs
namespace Go.Proofs.Ytjlpdoomchkfgaa
set_option linter.unusedVariables false
set_option linter.unusedSimpArgs false
set_option synthInstance.maxSize 20000
set_option maxHeartbeats 2000000
set_option maxRecDepth 20000
open Go.RowKit Go.Maps

theorem exec_box24 {o : Oper} {r : Operand → Value} {w : World} {n : S} (x : Operand) (ho : o.op = .box 24 x) (hx : r x = sv n) : (execOp r o).run Try.prog w = .ok (.value (.pointer (some ⟨w.heap.size, 0, none⟩))) (w.alloc (.cells (sc n).toArray 24)) := by
  obtain ⟨n1, n2⟩ := n
  unfold sv at hx
  unfold sc
  dsimp only at hx ⊢
  unfold execOp
  simp only [ho]
  go_simp
theorem exec_eql24 {o : Oper} {r : Operand → Value} {w : World} {a b : S} (x y : Operand) (ho : o.op = .binOp .eql 24 x y 24) (hx : r x = sv a) (hy : r y = sv b) : (execOp r o).run Try.prog w = .ok (.value (.bool (decide (a = b)))) w := by
  obtain ⟨a1, a2⟩ := a
  obtain ⟨b1, b2⟩ := b
  unfold sv at hx hy
  dsimp only at hx hy
  have e : decide ((a1, a2) = (b1, b2)) = (a1 == b1 && a2 == b2) := by
    by_cases h1 : a1 = b1 <;> by_cases h2 : a2 = b2 <;> simp [h1, h2]
  rw [e]
  unfold execOp
  simp only [ho]
  go_simp
  by_cases h1 : a1 = b1 <;> by_cases h2 : a2 = b2 <;> simp [h1, h2]
theorem exec_look {o : Oper} {r : Operand → Value} {w : World} {mo : Option Nat} {n : S} {v : Value} (x y : Operand) (ho : o.op = .lookup 68 x y true) (hx : r x = .map mo) (hy : r y = sv n) (hrun : (Instr.lookup 68 (.map mo) (sv n) true).run Try.prog w = .ok v w) : (execOp r o).run Try.prog w = .ok (.value v) w := by
  unfold execOp
  simp only [ho, hx, hy, Sem.run_bind, hrun, Result.andThen_ok, Sem.run_pure]
theorem lookT_nil (w : World) {n : S} (hn : SOk n) : (Instr.lookup 68 (.map none) (sv n) true).run Try.prog w = .ok (.tuple #[iv zT, .bool false]) w := by
  have h := zero35 w
  have hc := keyed24.check w true (key24 hn)
  rcases keyed24.find w (key24 hn) [] (by simp) with ⟨h1, _⟩ | ⟨j, e, _, h2, _⟩
  · simp [Instr.lookup, run_underlying under68, h, hc, h1, Result.andThen]
  · simp at h2

structure PTr (w : World) (tb : Nat) (mo : Option Nat) (L : List IT) : Prop where
  blk : Blk w tb 70 [.map mo]
  mp : (mo = none ∧ L = []) ∨ ∃ mb, mo = some mb ∧ MapT w mb L
  ok : ∀ x ∈ L, SOk x.m.n ∧ SOk x.m.p ∧ x.m.b.length ≤ 1000
  rd : ∀ x ∈ L, Rd w x.v x.m.b
  srt : SrtI (L.map IT.m)
  few : L.length ≤ 1000
section
variable {w w' : World} {tb : Nat} {mo : Option Nat} {L : List IT}
theorem PTr.below (h : PTr w tb mo L) (hb : Below w.heap.size w w') : PTr w' tb mo L :=
  ⟨h.blk.below hb, h.mp.imp id (fun ⟨mb, e, hm⟩ => ⟨mb, e, hm.below hb⟩), h.ok, fun x hx => (h.rd x hx).below hb, h.srt, h.few⟩
theorem PTr.okL (h : PTr w tb mo L) : OkL L := fun x hx => (h.ok x hx).1
theorem PTr.look (h : PTr w tb mo L) {n : S} (hn : SOk n) : ∃ x b, (∀ w', Below w.heap.size w w' → (Instr.lookup 68 (.map mo) (sv n) true).run Try.prog w' = .ok (.tuple #[iv x, .bool b]) w') ∧ GotT w L n x b := by
  rcases h.mp with ⟨rfl, rfl⟩ | ⟨mb, rfl, hm⟩
  · exact ⟨zT, false, fun w' _ => lookT_nil w' hn, ⟨rfl, rfl, rd_nil _, fun h => (by cases h), fun _ => rfl⟩⟩
  · by_cases hx : ∃ x ∈ L, x.m.n = n
    · obtain ⟨x, hx, e⟩ := hx
      have hf : findM (L.map IT.m) n = some x.m := by rw [← e]; exact findM_of h.srt (List.mem_map.2 ⟨x, hx, rfl⟩)
      refine ⟨x, true, fun w' hb => ?_, ⟨by rw [hf]; rfl, by rw [hf]; rfl, h.rd x hx, fun _ => ⟨hx, e⟩, fun h => (by cases h)⟩⟩
      rcases (hm.below hb).look h.okL hn with ⟨y, hy, e2, hr⟩ | ⟨hno, _⟩
      · rw [srtT_uniq h.srt hx hy (by rw [e, e2])]; exact hr
      · exact absurd e (hno x hx)
    · have hf : findM (L.map IT.m) n = none := findM_none fun y hy => by
        obtain ⟨z, hz, rfl⟩ := List.mem_map.1 hy
        exact fun e => hx ⟨z, hz, e⟩
      refine ⟨zT, false, fun w' hb => ?_, ⟨by rw [hf]; rfl, by rw [hf]; rfl, rd_nil _, fun h => (by cases h), fun _ => rfl⟩⟩
      rcases (hm.below hb).look h.okL hn with ⟨y, hy, e2, hr⟩ | ⟨_, hr⟩
      · exact absurd ⟨y, hy, e2⟩ hx
      · exact hr
end
theorem results42 : Try.f42.results = #[.cell 4 35, .tmp 5] := rfl
theorem Itp.ret42 {w : World} {b : Nat} {q : IT} {k : Value} {tmps : Array Value} (h : Itp w b q) (h1 : tmps.getD 4 undef = ptr b) (h2 : tmps.getD 5 undef = k) : (results Try.f42 tmps).run Try.prog w = .ok (.tuple #[iv q, k]) w := by
  rw [results_cell_tmp results42, h1, h2]
  have e1 : (asAddr (ptr b)).run Try.prog w = .ok ⟨b, 0, none⟩ w := rfl
  rw [e1]
  simp only [Result.andThen_ok, h.load]
/-- Two new blocks, a stamp's and an item's. -/
theorem two_new {w w1 : World} {B0 B1 : Nat} {n : S} (hw1 : w1 = (w.alloc (.cells (sc n).toArray 24)).alloc (.cells (ic zT).toArray 35)) (h0 : B0 = w.heap.size) (h1 : B1 = w.heap.size + 1) :
    Below w.heap.size w w1 ∧ Blk w1 B0 24 (sc n) ∧ Itp w1 B1 zT ∧ w.heap.size ≤ B1 := by
  subst hw1 h0 h1
  refine ⟨balloc (balloc (Below.refl _ _) _) _, (blk_new w (sc n) 24).alloc _, ?_, by omega⟩
  have := itp_new (w.alloc (.cells (sc n).toArray 24)) zT
  simpa using this
set_option maxHeartbeats 4000000 in
theorem look42 {w : World} {tb : Nat} {mo : Option Nat} {L : List IT} (h : PTr w tb mo L) {n : S} (hn : SOk n) : Calls Try.prog 42 #[ptr tb, sv n] w (GetAns w L n) := by
  obtain ⟨x, b, hlook, hgot⟩ := h.look hn
  have HG : Hid (GotT w L n x b) := hgot
  have HL : Hid (∀ w', Below w.heap.size w w' → (Instr.lookup 68 (.map mo) (sv n) true).run Try.prog w' = .ok (.tuple #[iv x, .bool b]) w') := hlook
  have HT : Hid (∀ w', Below w.heap.size w w' → Blk w' tb 70 [.map mo]) := fun w' hb => h.blk.below hb
  clear hlook hgot h
  obtain ⟨w1, hw1⟩ : ∃ w1, w1 = (w.alloc (.cells (sc n).toArray 24)).alloc (.cells (ic zT).toArray 35) := ⟨_, rfl⟩
  obtain ⟨B0, hB0⟩ : ∃ B0, B0 = w.heap.size := ⟨_, rfl⟩
  obtain ⟨B1, hB1⟩ : ∃ B1, B1 = w.heap.size + 1 := ⟨_, rfl⟩
  obtain ⟨i1, i2, i3, i4⟩ := two_new hw1 hB0 hB1
  have HB1 : Hid (Below w.heap.size w w1) := i1
  have HX : Hid (Blk w1 B0 24 (sc n)) := i2
  have HZ : Hid (Itp w1 B1 zT) := i3
  have HBB : Hid (w.heap.size ≤ B1) := i4
  clear i1 i2 i3 i4
  go_enter Try.func42, Try.ntmps42
  go_upto_region 1 with (first | (refine wpList_okw rfl (exec_box24 (n := n) (.tmp 1) rfl rfl) ?_) | (refine wpList_okw rfl (exec_alloc35 rfl) ?_))
  rw [← hw1, ← hB1]
  rw [← hB0]
  clear hw1 hB0 hB1
  go_upto_region 3 with fail
  have t0 := fun z : WIn (fun w' => Below w1.heap.size w1 w') => (HT.out z.w (bnext HB1.out z.ok)).cell 0 _ rfl
  have ne : Nonempty (WIn (fun w' => Below w1.heap.size w1 w')) := ⟨⟨w1, Below.refl _ _⟩⟩
  refine wp_region_tree (C := fun w' => ∃ z : WIn (fun w' => Below w1.heap.size w1 w'), w' = z.w) (.still 0 (.still 1 (.still 2 (.still 3 (.still 4 (.still 5 (.still 6 (.still 7 (.still 8 (.one 9 (.one 10 (.still 11 .done)))))))))))) (by kernel_rfl) (by kernel_rfl) ⟨⟨w1.drew, below_drewn w1 1⟩, rfl⟩ ?_
  obtain ⟨w2, hw2⟩ : ∃ w2, w2 = w1.drew := ⟨_, rfl⟩
  have HB2 : Hid (Below w1.heap.size w1 w2) := by show Below _ _ _; rw [hw2]; exact below_drewn w1 1
  rw [← hw2]
  clear hw2
  iterate 4 (refine tree_still rfl rfl ?_; go_big_quiet_step (fail); refine wpQuiet_nil ?_)
  refine tree_still rfl rfl ?_
  refine quiet_ok1 rfl (fun w' hw' => by obtain ⟨z, rfl⟩ := hw'; exact exec_load24n (n := n) (.tmp 3) rfl rfl (Blk.range0 (HX.out.below z.ok))) ?_
  go_simp
  refine tree_still rfl rfl ?_
  refine quiet_ok1 rfl (fun w' hw' => by obtain ⟨z, rfl⟩ := hw'; exact exec_look (n := n) (.tmp 15) (.tmp 16) rfl rfl rfl (HL.out z.w (bnext HB1.out z.ok))) ?_
  go_simp
  iterate 3 (refine tree_still rfl rfl ?_; go_big_quiet_step (fail); refine wpQuiet_nil ?_)
  obtain ⟨w3, hw3⟩ : ∃ w3, w3 = w2.alloc (.cells (ic zT).toArray 35) := ⟨_, rfl⟩
  obtain ⟨g, hg⟩ : ∃ g, g = w2.heap.size := ⟨_, rfl⟩
  obtain ⟨w4, hw4⟩ : ∃ w4, w4 = w3.setCells g 0 (ic x) := ⟨_, rfl⟩
  obtain ⟨j1, j2, j3, j4⟩ := item_putp HB2.out hw3 hg hw4
  have HT3 : Hid (w3.there g 0 10) := (show _ from by rw [hw3, hg]; exact (itp_new w2 zT).there)
  have HB3 : Hid (Below w1.heap.size w1 w3) := by show Below _ _ _; rw [hw3]; exact balloc HB2.out _
  have HI4 : Hid (Itp w4 g x) := j1
  have HB4 : Hid (Below w1.heap.size w1 w4) := j2
  have HW3 : Hid (w3 = w2.alloc (.cells (ic zT).toArray 35)) := hw3
  have HGG : Hid (g = w2.heap.size) := hg
  have HW4 : Hid (w4 = w3.setCells g 0 (ic x)) := hw4
  clear j1 j2 j3 j4 hw3 hg hw4
  refine tree_one rfl rfl ?_
  refine wp_ok (exec_alloc35 rfl) ?_
  rw [← HW3.out, ← HGG.out]
  refine ⟨⟨⟨w3, HB3.out⟩, rfl⟩, ?_⟩
  go_simp
  refine tree_one rfl rfl ?_
  refine wp_skip (exec_store35 (q := x) (.tmp 6) (.tmp 18) rfl rfl rfl HT3.out) ?_
  rw [← HW4.out]
  refine ⟨⟨⟨w4, HB4.out⟩, rfl⟩, ?_⟩
  go_simp
  clear HW3 HGG HW4 HT3 HB3
  refine tree_still rfl rfl ?_; go_big_quiet_step (fail); refine wpQuiet_nil ?_
  refine tree_done ?_
  clear ne t0
  have HZ4 : Hid (Itp w4 B1 zT) := HZ.out.below HB4.out
  have HT4 : Hid (w4.there B1 0 10) := HZ4.out.there
  have HR4 : Hid (w4.rangeAt g 0 (ic x)) := HI4.out.range
  have HP : Hid (Itp (w4.setCells B1 0 (ic x)) B1 x) := HZ4.out.put x
  have HBp : Hid (Below w.heap.size w (w4.setCells B1 0 (ic x))) := below_put (bnext HB1.out HB4.out) HBB.out
  have HGp : Hid (GotT (w4.setCells B1 0 (ic x)) L n x b) := HG.out.below HBp.out
  go_wp2_with (first
    | (refine wpList_okw rfl (exec_load35 (q := x) (.tmp 6) rfl rfl HR4.out) ?_)
    | (refine wpList_skipw rfl (exec_store35 (q := x) (.tmp 4) (.tmp 20) rfl rfl rfl HT4.out) ?_))
  refine bodyPost_ret (v := .tuple #[iv x, .bool b]) (HP.out.ret42 rfl rfl) rfl ⟨x, b, rfl, HGp.out, HBp.out⟩
end Go.Proofs.Ytjlpdoomchkfgaa
