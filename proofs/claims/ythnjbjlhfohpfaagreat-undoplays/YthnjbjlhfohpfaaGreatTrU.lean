/-
  The program's tree in memory; what is looked up in it.
  What is there; what takes others; a copy of an item; New, Len, Get.
-/
import Derived.Test.YthnjbjlhfohpfaaGreatTrN
import Derived.Test.YthnjbjlhfohpfaaGreatRs
import Derived.Test.YthnjbjlhfohpfaaGreatLsG
import Derived.Test.YthnjbjlhfohpfaaGreatWirP
namespace Go.Proofs.YthnjbjlhfohpfaaGreat
section
set_option linter.unusedVariables false
set_option linter.unusedSimpArgs false
set_option synthInstance.maxSize 20000
set_option maxHeartbeats 2000000
set_option maxRecDepth 20000
open Go.RowKit Go.Maps

theorem exec_box24 {o : Oper} {r : Operand → Value} {w : World} {n : S} (x : Operand) (ho : o.op = .box 35 x) (hx : r x = sv n) : (execOp r o).run Tryz.prog w = .ok (.value (.pointer (some ⟨w.heap.size, 0, none⟩))) (w.alloc (.cells (sc n).toArray 35)) := by
  obtain ⟨n1, n2⟩ := n
  unfold sv at hx
  unfold sc
  dsimp only at hx ⊢
  unfold execOp
  simp only [ho]
  go_simp
theorem exec_eql24 {o : Oper} {r : Operand → Value} {w : World} {a b : S} (x y : Operand) (ho : o.op = .binOp .eql 35 x y 35) (hx : r x = sv a) (hy : r y = sv b) : (execOp r o).run Tryz.prog w = .ok (.value (.bool (decide (a = b)))) w := by
  obtain ⟨a1, a2⟩ := a
  obtain ⟨b1, b2⟩ := b
  unfold sv at hx hy
  dsimp only at hx hy
  have e : decide ((a1, a2) = (b1, b2)) = (a1 == b1 && a2 == b2) := by
    by_cases h1 : a1 = b1 <;> by_cases h2 : a2 = b2 <;> simp [h1, h2]
  rw [e]
  unfold execOp
  simp only [ho]
  go_simp
  by_cases h1 : a1 = b1 <;> by_cases h2 : a2 = b2 <;> simp [h1, h2]
theorem exec_look {o : Oper} {r : Operand → Value} {w : World} {mo : Option Nat} {n : S} {v : Value} (x y : Operand) (ho : o.op = .lookup 89 x y true) (hx : r x = .map mo) (hy : r y = sv n) (hrun : (Instr.lookup 89 (.map mo) (sv n) true).run Tryz.prog w = .ok v w) : (execOp r o).run Tryz.prog w = .ok (.value v) w := by
  unfold execOp
  simp only [ho, hx, hy, Sem.run_bind, hrun, Result.andThen_ok, Sem.run_pure]
theorem lookT_nil (w : World) {n : S} (hn : SOk n) : (Instr.lookup 89 (.map none) (sv n) true).run Tryz.prog w = .ok (.tuple #[iv zT, .bool false]) w := by
  have h := zero35 w
  have hc := keyed24.check w true (key24 hn)
  rcases keyed24.find w (key24 hn) [] (by simp) with ⟨h1, _⟩ | ⟨j, e, _, h2, _⟩
  · simp [Instr.lookup, run_underlying under68, h, hc, h1, Result.andThen]
  · simp at h2

structure PTr (w : World) (tb : Nat) (mo : Option Nat) (L : List IT) : Prop where
  blk : Blk w tb 91 [.map mo]
  mp : (mo = none ∧ L = []) ∨ ∃ mb, mo = some mb ∧ MapT w mb L
  ok : ∀ x ∈ L, SOk x.m.n ∧ SOk x.m.p ∧ x.m.b.length ≤ 1000
  rd : ∀ x ∈ L, Rd w x.v x.m.b
  srt : SrtI (L.map IT.m)
  few : L.length ≤ 1000
section
variable {w w' : World} {tb : Nat} {mo : Option Nat} {L : List IT}
theorem PTr.below (h : PTr w tb mo L) (hb : Below w.heap.size w w') : PTr w' tb mo L :=
  ⟨h.blk.below hb, h.mp.imp id (fun ⟨mb, e, hm⟩ => ⟨mb, e, hm.below hb⟩), h.ok, fun x hx => (h.rd x hx).below hb, h.srt, h.few⟩
theorem PTr.okL (h : PTr w tb mo L) : OkL L := fun x hx => (h.ok x hx).1
theorem PTr.look (h : PTr w tb mo L) {n : S} (hn : SOk n) : ∃ x b, (∀ w', Below w.heap.size w w' → (Instr.lookup 89 (.map mo) (sv n) true).run Tryz.prog w' = .ok (.tuple #[iv x, .bool b]) w') ∧ GotT w L n x b := by
  rcases h.mp with ⟨rfl, rfl⟩ | ⟨mb, rfl, hm⟩
  · exact ⟨zT, false, fun w' _ => lookT_nil w' hn, ⟨rfl, rfl, rd_nil _, fun h => (by cases h), fun _ => rfl⟩⟩
  · by_cases hx : ∃ x ∈ L, x.m.n = n
    · obtain ⟨x, hx, e⟩ := hx
      have hf : findM (L.map IT.m) n = some x.m := by rw [← e]; exact findM_of h.srt (List.mem_map.2 ⟨x, hx, rfl⟩)
      refine ⟨x, true, fun w' hb => ?_, ⟨by rw [hf]; rfl, by rw [hf]; rfl, h.rd x hx, fun _ => ⟨hx, e⟩, fun h => (by cases h)⟩⟩
      rcases (hm.below hb).look h.okL hn with ⟨y, hy, e2, hr⟩ | ⟨hno, _⟩
      · rw [srtT_uniq h.srt hx hy (by rw [e, e2])]; exact hr
      · exact absurd e (hno x hx)
    · have hf : findM (L.map IT.m) n = none := findM_none fun y hy => by
        obtain ⟨z, hz, rfl⟩ := List.mem_map.1 hy
        exact fun e => hx ⟨z, hz, e⟩
      refine ⟨zT, false, fun w' hb => ?_, ⟨by rw [hf]; rfl, by rw [hf]; rfl, rd_nil _, fun h => (by cases h), fun _ => rfl⟩⟩
      rcases (hm.below hb).look h.okL hn with ⟨y, hy, e2, hr⟩ | ⟨_, hr⟩
      · exact absurd ⟨y, hy, e2⟩ hx
      · exact hr
end
theorem results42 : Tryz.f40.results = #[.cell 4 61, .tmp 5] := rfl
theorem Itp.ret42 {w : World} {b : Nat} {q : IT} {k : Value} {tmps : Array Value} (h : Itp w b q) (h1 : tmps.getD 4 undef = ptr b) (h2 : tmps.getD 5 undef = k) : (results Tryz.f40 tmps).run Tryz.prog w = .ok (.tuple #[iv q, k]) w := by
  rw [results_cell_tmp results42, h1, h2]
  have e1 : (asAddr (ptr b)).run Tryz.prog w = .ok ⟨b, 0, none⟩ w := rfl
  rw [e1]
  simp only [Result.andThen_ok, h.load]
/-- Two new blocks, a stamp's and an item's. -/
theorem two_new {w w1 : World} {B0 B1 : Nat} {n : S} (hw1 : w1 = (w.alloc (.cells (sc n).toArray 35)).alloc (.cells (ic zT).toArray 61)) (h0 : B0 = w.heap.size) (h1 : B1 = w.heap.size + 1) :
    Below w.heap.size w w1 ∧ Blk w1 B0 35 (sc n) ∧ Itp w1 B1 zT ∧ w.heap.size ≤ B1 := by
  subst hw1 h0 h1
  refine ⟨balloc (balloc (Below.refl _ _) _) _, (blk_new w (sc n) 35).alloc _, ?_, by omega⟩
  have := itp_new (w.alloc (.cells (sc n).toArray 35)) zT
  simpa using this
set_option maxHeartbeats 4000000 in
theorem look42 {w : World} {tb : Nat} {mo : Option Nat} {L : List IT} (h : PTr w tb mo L) {n : S} (hn : SOk n) : Calls Tryz.prog 40 #[ptr tb, sv n] w (GetAns w L n) := by
  obtain ⟨x, b, hlook, hgot⟩ := h.look hn
  have HG : Hid (GotT w L n x b) := hgot
  have HL : Hid (∀ w', Below w.heap.size w w' → (Instr.lookup 89 (.map mo) (sv n) true).run Tryz.prog w' = .ok (.tuple #[iv x, .bool b]) w') := hlook
  have HT : Hid (∀ w', Below w.heap.size w w' → Blk w' tb 91 [.map mo]) := fun w' hb => h.blk.below hb
  clear hlook hgot h
  obtain ⟨w1, hw1⟩ : ∃ w1, w1 = (w.alloc (.cells (sc n).toArray 35)).alloc (.cells (ic zT).toArray 61) := ⟨_, rfl⟩
  obtain ⟨B0, hB0⟩ : ∃ B0, B0 = w.heap.size := ⟨_, rfl⟩
  obtain ⟨B1, hB1⟩ : ∃ B1, B1 = w.heap.size + 1 := ⟨_, rfl⟩
  obtain ⟨i1, i2, i3, i4⟩ := two_new hw1 hB0 hB1
  have HB1 : Hid (Below w.heap.size w w1) := i1
  have HX : Hid (Blk w1 B0 35 (sc n)) := i2
  have HZ : Hid (Itp w1 B1 zT) := i3
  have HBB : Hid (w.heap.size ≤ B1) := i4
  clear i1 i2 i3 i4
  go_enter Tryz.func40, Tryz.ntmps40
  go_upto_region 1 with (first | (refine wpList_okw rfl (exec_box24 (n := n) (.tmp 1) rfl rfl) ?_) | (refine wpList_okw rfl (exec_alloc35 rfl) ?_))
  rw [← hw1, ← hB1]
  rw [← hB0]
  clear hw1 hB0 hB1
  go_upto_region 3 with fail
  have t0 := fun z : WIn (fun w' => Below w1.heap.size w1 w') => (HT.out z.w (bnext HB1.out z.ok)).cell 0 _ rfl
  have ne : Nonempty (WIn (fun w' => Below w1.heap.size w1 w')) := ⟨⟨w1, Below.refl _ _⟩⟩
  refine wp_region_tree (C := fun w' => ∃ z : WIn (fun w' => Below w1.heap.size w1 w'), w' = z.w) (.still 0 (.still 1 (.still 2 (.still 3 (.still 4 (.still 5 (.still 6 (.still 7 (.still 8 (.one 9 (.one 10 (.still 11 .done)))))))))))) (by kernel_rfl) (by kernel_rfl) ⟨⟨w1.drew, below_drewn w1 1⟩, rfl⟩ ?_
  obtain ⟨w2, hw2⟩ : ∃ w2, w2 = w1.drew := ⟨_, rfl⟩
  have HB2 : Hid (Below w1.heap.size w1 w2) := by show Below _ _ _; rw [hw2]; exact below_drewn w1 1
  rw [← hw2]
  clear hw2
  iterate 4 (refine tree_still rfl rfl ?_; go_big_quiet_step (fail); refine wpQuiet_nil ?_)
  refine tree_still rfl rfl ?_
  refine quiet_ok1 rfl (fun w' hw' => by obtain ⟨z, rfl⟩ := hw'; exact exec_load24n (n := n) (.tmp 3) rfl rfl (Blk.range0 (HX.out.below z.ok))) ?_
  go_simp
  refine tree_still rfl rfl ?_
  refine quiet_ok1 rfl (fun w' hw' => by obtain ⟨z, rfl⟩ := hw'; exact exec_look (n := n) (.tmp 15) (.tmp 16) rfl rfl rfl (HL.out z.w (bnext HB1.out z.ok))) ?_
  go_simp
  iterate 3 (refine tree_still rfl rfl ?_; go_big_quiet_step (fail); refine wpQuiet_nil ?_)
  obtain ⟨w3, hw3⟩ : ∃ w3, w3 = w2.alloc (.cells (ic zT).toArray 61) := ⟨_, rfl⟩
  obtain ⟨g, hg⟩ : ∃ g, g = w2.heap.size := ⟨_, rfl⟩
  obtain ⟨w4, hw4⟩ : ∃ w4, w4 = w3.setCells g 0 (ic x) := ⟨_, rfl⟩
  obtain ⟨j1, j2, j3, j4⟩ := item_putp HB2.out hw3 hg hw4
  have HT3 : Hid (w3.there g 0 10) := (show _ from by rw [hw3, hg]; exact (itp_new w2 zT).there)
  have HB3 : Hid (Below w1.heap.size w1 w3) := by show Below _ _ _; rw [hw3]; exact balloc HB2.out _
  have HI4 : Hid (Itp w4 g x) := j1
  have HB4 : Hid (Below w1.heap.size w1 w4) := j2
  have HW3 : Hid (w3 = w2.alloc (.cells (ic zT).toArray 61)) := hw3
  have HGG : Hid (g = w2.heap.size) := hg
  have HW4 : Hid (w4 = w3.setCells g 0 (ic x)) := hw4
  clear j1 j2 j3 j4 hw3 hg hw4
  refine tree_one rfl rfl ?_
  refine wp_ok (exec_alloc35 rfl) ?_
  rw [← HW3.out, ← HGG.out]
  refine ⟨⟨⟨w3, HB3.out⟩, rfl⟩, ?_⟩
  go_simp
  refine tree_one rfl rfl ?_
  refine wp_skip (exec_store35 (q := x) (.tmp 6) (.tmp 18) rfl rfl rfl HT3.out) ?_
  rw [← HW4.out]
  refine ⟨⟨⟨w4, HB4.out⟩, rfl⟩, ?_⟩
  go_simp
  clear HW3 HGG HW4 HT3 HB3
  refine tree_still rfl rfl ?_; go_big_quiet_step (fail); refine wpQuiet_nil ?_
  refine tree_done ?_
  clear ne t0
  have HZ4 : Hid (Itp w4 B1 zT) := HZ.out.below HB4.out
  have HT4 : Hid (w4.there B1 0 10) := HZ4.out.there
  have HR4 : Hid (w4.rangeAt g 0 (ic x)) := HI4.out.range
  have HP : Hid (Itp (w4.setCells B1 0 (ic x)) B1 x) := HZ4.out.put x
  have HBp : Hid (Below w.heap.size w (w4.setCells B1 0 (ic x))) := below_put (bnext HB1.out HB4.out) HBB.out
  have HGp : Hid (GotT (w4.setCells B1 0 (ic x)) L n x b) := HG.out.below HBp.out
  go_wp2_with (first
    | (refine wpList_okw rfl (exec_load35 (q := x) (.tmp 6) rfl rfl HR4.out) ?_)
    | (refine wpList_skipw rfl (exec_store35 (q := x) (.tmp 4) (.tmp 20) rfl rfl rfl HT4.out) ?_))
  refine bodyPost_ret (v := .tuple #[iv x, .bool b]) (HP.out.ret42 rfl rfl) rfl ⟨x, b, rfl, HGp.out, HBp.out⟩
end

section
set_option linter.unusedVariables false
set_option linter.unusedSimpArgs false
set_option synthInstance.maxSize 20000
set_option maxHeartbeats 2000000
set_option maxRecDepth 20000
open Go.RowKit Go.Maps

section
variable {w : World} {tb : Nat} {mo : Option Nat} {L : List IT} {n : S}
theorem box_new {w w1 : World} {B0 : Nat} {n : S} (hw1 : w1 = w.alloc (.cells (sc n).toArray 35)) (h0 : B0 = w.heap.size) : Below w.heap.size w w1 ∧ Blk w1 B0 35 (sc n) := by
  subst hw1 h0
  exact ⟨balloc (Below.refl _ _) _, blk_new w (sc n) 35⟩
theorem has46 (h : PTr w tb mo L) (hn : SOk n) : Calls Tryz.prog 105 #[ptr tb, sv n] w fun e w' => e = .returned (.bool (hasM (L.map IT.m) n)) ∧ Below w.heap.size w w' := by
  have HF : Hid (∀ w', Below w.heap.size w w' → Calls Tryz.prog 40 #[ptr tb, sv n] w' (GetAns w' L n)) := fun w' hb => look42 (h.below hb) hn
  clear h
  obtain ⟨w1, hw1⟩ : ∃ w1, w1 = w.alloc (.cells (sc n).toArray 35) := ⟨_, rfl⟩
  obtain ⟨B0, hB0⟩ : ∃ B0, B0 = w.heap.size := ⟨_, rfl⟩
  obtain ⟨i1, i2⟩ := box_new hw1 hB0
  have HB1 : Hid (Below w.heap.size w w1) := i1
  have HX : Hid (w1.rangeAt B0 0 (sc n)) := i2.range0
  clear i1 i2
  go_enter Tryz.func105, Tryz.ntmps105
  go_upto_region 1 with (refine wpList_okw rfl (exec_box24 (n := n) (.tmp 1) rfl rfl) ?_)
  rw [← hw1, ← hB0]
  clear hw1 hB0
  go_upto_region 2 with (first
    | (refine wpList_okw rfl (exec_load24n (n := n) (.tmp 3) rfl rfl HX.out) ?_)
    | (go_at_call 40; go_must (refine (HF.out _ HB1.out).mono ?_; rintro r w2 ⟨x, b, rfl, hgt, hb2⟩; have HG : Hid (GotT w2 L n x b) := hgt; have HB12 : Hid (Below w1.heap.size w1 w2) := hb2; have HBz : Hid (Below w.heap.size w w2) := bnext HB1.out hb2; clear hb2 hgt; obtain ⟨w3, hw3⟩ : ∃ w3, w3 = w2.alloc (.cells (ic zT).toArray 61) := ⟨_, rfl⟩; obtain ⟨g, hg⟩ : ∃ g, g = w2.heap.size := ⟨_, rfl⟩; have HT3 : Hid (w3.there g 0 10) := (show _ from by rw [hw3, hg]; exact (itp_new w2 zT).there); have HW3 : Hid (w3 = w2.alloc (.cells (ic zT).toArray 61)) := hw3; have HGG : Hid (g = w2.heap.size) := hg; clear hw3 hg; have tk1 : Hid True := trivial; have tk2 : Hid True := trivial))
    | (clear tk1; refine wpList_okw rfl (exec_alloc35 rfl) ?_; rw [← HW3.out, ← HGG.out])
    | (clear tk2; refine wpList_skipw rfl (exec_store35 (q := x) (.tmp 5) (.tmp 11) rfl rfl rfl HT3.out) ?_; obtain ⟨w4, hw4⟩ : ∃ w4, w4 = w3.setCells g 0 (ic x) := ⟨_, rfl⟩; rw [← hw4]; obtain ⟨i1, i2, i3, i4⟩ := item_putp HBz.out HW3.out HGG.out hw4; have HI4 : Hid (Itp w4 g x) := i1; have HB4 : Hid (Below w.heap.size w w4) := i2; have HB24 : Hid (Below w2.heap.size w2 w4) := i3; have HGL : Hid (w.heap.size ≤ g) := i4; clear hw4 i1 i2 i3 i4 HT3 HW3 HGG))
  go_wp2
  go_ret
  exact ⟨by rw [HG.out.is]; rfl, HB4.out⟩
theorem len18 (h : PTr w tb mo L) : Calls Tryz.prog 107 #[ptr tb] w fun e w' => e = .returned (.int .i64 (L.length : Int)) ∧ w' = w := by
  have t0 := h.blk.cell 0 _ rfl
  rcases h.mp with ⟨rfl, rfl⟩ | ⟨mb, rfl, hm⟩
  · go_enter Tryz.func107, Tryz.ntmps107
    go_wp2
    go_ret
    exact ⟨rfl, rfl⟩
  · have hl := hm.len
    go_enter Tryz.func107, Tryz.ntmps107
    go_wp2
    go_ret
    exact ⟨rfl, rfl⟩
theorem new10 (w : World) : Calls Tryz.prog 22 #[] w fun e w' => e = .returned (ptr w.heap.size) ∧ w' = w.alloc (.cells #[.map none] 91) := by
  go_enter Tryz.func22, Tryz.ntmps22
  go_wp2
  go_ret
  exact ⟨rfl, rfl⟩
theorem ptr_new (w : World) : PTr (w.alloc (.cells #[.map none] 91)) w.heap.size none [] := ⟨blk_new w [.map none] 91, .inl ⟨rfl, rfl⟩, fun x h => (by cases h), fun x h => (by cases h), List.Pairwise.nil, Nat.zero_le _⟩
/-- A copy of an item: its content lies in new memory. -/
structure CopyT (B : Nat) (w : World) (x y : IT) : Prop where
  m : y.m = x.m
  own : Own B 5 w y.v y.m.b
theorem Itp.ret1 {w : World} {b : Nat} {q : IT} {v : Value} (h : Itp w b q) (h1 : v = ptr b) : (((asAddr v).run Tryz.prog w).andThen fun a w₁ => (loadVar 61 a).run Tryz.prog w₁) = .ok (iv q) w := by
  subst h1
  have e1 : (asAddr (ptr b)).run Tryz.prog w = .ok ⟨b, 0, none⟩ w := rfl
  rw [e1]
  simp only [Result.andThen_ok, h.load]
theorem CopyT.rd {B : Nat} {w : World} {x y : IT} (h : CopyT B w x y) : Rd w y.v y.m.b := h.own.rd
theorem results43 : Tryz.f41.results = #[.cell 2 61] := rfl
/-- Two new blocks, of two items. -/
theorem two_items {w w1 : World} {B0 B1 : Nat} {x : IT} (hw1 : w1 = (w.alloc (.cells (ic x).toArray 61)).alloc (.cells (ic zT).toArray 61)) (h0 : B0 = w.heap.size) (h1 : B1 = w.heap.size + 1) :
    Below w.heap.size w w1 ∧ Itp w1 B0 x ∧ Itp w1 B1 zT ∧ w.heap.size ≤ B0 ∧ w.heap.size ≤ B1 ∧ B0 ≠ B1 := by
  subst hw1 h0 h1
  refine ⟨balloc (balloc (Below.refl _ _) _) _, Blk.alloc (itp_new w x) _, ?_, by omega, by omega, by omega⟩
  have := itp_new (w.alloc (.cells (ic x).toArray 61)) zT
  simpa using this
theorem copied43 (x : IT) (hx : Rd w x.v x.m.b) (hl : x.m.b.length ≤ 1000) : Calls Tryz.prog 41 #[iv x] w fun e w' => ∃ y, e = .returned (iv y) ∧ CopyT w.heap.size w' x y ∧ Below w.heap.size w w' := by
  have HC : Hid (∀ w', Below w.heap.size w w' → Calls Tryz.prog 36 #[x.v] w' fun e w'' => ∃ v', e = .returned v' ∧ Own w'.heap.size 5 w'' v' x.m.b ∧ Below w'.heap.size w' w'') := fun w' hb => bclone_any x.v x.m.b w' (hx.below hb) (by omega)
  clear hx hl
  obtain ⟨w1, hw1⟩ : ∃ w1, w1 = (w.alloc (.cells (ic x).toArray 61)).alloc (.cells (ic zT).toArray 61) := ⟨_, rfl⟩
  obtain ⟨B0, hB0⟩ : ∃ B0, B0 = w.heap.size := ⟨_, rfl⟩
  obtain ⟨B1, hB1⟩ : ∃ B1, B1 = w.heap.size + 1 := ⟨_, rfl⟩
  obtain ⟨i1, i2, i3, i4, i5, i6⟩ := two_items hw1 hB0 hB1
  have HB1 : Hid (Below w.heap.size w w1) := i1
  have HX : Hid (Itp w1 B0 x) := i2
  have HZ : Hid (Itp w1 B1 zT) := i3
  have HBB : Hid (w.heap.size ≤ B0 ∧ w.heap.size ≤ B1 ∧ B0 ≠ B1) := ⟨i4, i5, i6⟩
  clear i1 i2 i3 i4 i5 i6
  have c7 := Blk.cell HX.out 7 _ rfl
  unfold IT.v at HC
  go_enter Tryz.func41, Tryz.ntmps41
  go_upto_region 1 with (first | (refine wpList_okw rfl (exec_box35 (q := x) (.tmp 0) rfl rfl) ?_) | (refine wpList_okw rfl (exec_alloc35 rfl) ?_))
  rw [← hw1, show (w.alloc (.cells (ic x).toArray 61)).heap.size = B1 from by rw [hB1]; simp]
  rw [← hB0]
  clear hw1 hB0 hB1
  go_upto_region 2 with (first
    | (go_at_call 36; go_must (refine (HC.out _ HB1.out).mono ?_; rintro r w2 ⟨v', rfl, ho, hb2⟩; have HB12 : Hid (Below w1.heap.size w1 w2) := hb2; have HX2 : Hid (Itp w2 B0 x) := HX.out.below hb2; have HZ2 : Hid (Itp w2 B1 zT) := HZ.out.below hb2; have HO : Hid (Own w1.heap.size 5 w2 v' x.m.b) := ho; obtain ⟨a', c', rfl, _, _⟩ := slice_of_own ho.2; have d7 := Blk.cell HX2.out 7 _ rfl; have f7 := Blk.frozen HX2.out 7; clear ho hb2 c7)))
  obtain ⟨w3, hw3⟩ : ∃ w3, w3 = w2.setCell ⟨B0, 7, none⟩ (.slice a' x.m.b.length c') := ⟨_, rfl⟩
  obtain ⟨y, hy⟩ : ∃ y : IT, y = ⟨x.m, a', x.m.b.length, c'⟩ := ⟨_, rfl⟩
  have HX3 : Hid (Itp w3 B0 y) := by
    show Blk _ _ _ _
    rw [hw3, hy]
    exact Blk.set HX2.out 7 _
  have HBz : Hid (Below w.heap.size w w2) := bnext HB1.out HB12.out
  have HG3 : Hid (w2.grownBy w3 (some B0)) := by show World.grownBy _ _ _; rw [hw3]; exact grown_setCell _ _ _ _
  have HZ3 : Hid (Itp w3 B1 zT) := Blk.past HZ2.out HG3.out (fun e => HBB.out.2.2 e.symm)
  have HB3 : Hid (Below w.heap.size w w3) := bgrown HBz.out HBB.out.1 HG3.out
  have HT3 : Hid (w3.there B1 0 10) := HZ3.out.there
  have HR3 : Hid (w3.rangeAt B0 0 (ic y)) := HX3.out.range
  have HP : Hid (Itp (w3.setCells B1 0 (ic y)) B1 y) := HZ3.out.put y
  have HBp : Hid (Below w.heap.size w (w3.setCells B1 0 (ic y))) := below_put HB3.out HBB.out.2.1
  have HK : Hid (CopyT w.heap.size (w3.setCells B1 0 (ic y)) x y) := by
    have h1 : Own w1.heap.size 5 w2 y.v y.m.b := by rw [hy]; exact HO.out
    have hlt : B0 < w1.heap.size ∧ B1 < w1.heap.size := ⟨Blk.lt HX.out, Blk.lt HZ.out⟩
    have h2 := own_past (own_past h1 hlt.1 HG3.out) hlt.2 (grown_setCells B1 (ic y) 0 w3)
    exact ⟨by rw [hy], h2.lower HB1.out.size⟩
  clear hy
  rw [← hw3]
  clear hw3 d7 f7
  go_wp2_with (first
    | (refine wpList_okw rfl (exec_load35 (q := y) (.tmp 1) rfl rfl HR3.out) ?_)
    | (refine wpList_skipw rfl (exec_store35 (q := y) (.tmp 2) (.tmp 7) rfl rfl rfl HT3.out) ?_))
  refine bodyPost_ret (v := iv y) ?_ rfl ⟨y, rfl, HK.out, HBp.out⟩
  rw [results_cell1 results43]
  exact HP.out.ret1 rfl
end
end
end Go.Proofs.YthnjbjlhfohpfaaGreat
