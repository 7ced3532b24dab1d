/-
  The program's Within and Hangs.
  What an operation writes of a tree; put, Set of the program.
-/
import Derived.Test.YthnjbjlhfohpfaaGreatTrX
namespace Go.Proofs.YthnjbjlhfohpfaaGreat
section
set_option linter.unusedVariables false
set_option linter.unusedSimpArgs false
set_option synthInstance.maxSize 20000
set_option maxHeartbeats 2000000
set_option maxRecDepth 20000
open Go.RowKit Go.Maps

section
variable {w : World} {tb : Nat} {mo : Option Nat} {L : List IT}
set_option maxHeartbeats 4000000 in
theorem within21 (h : PTr w tb mo L) {n m : S} (hn : SOk n) (hm : SOk m) : Calls Tryz.prog 108 #[ptr tb, sv n, sv m] w fun e w' => e = .returned (.bool (pwithinM (L.map IT.m) n m)) ∧ Below w.heap.size w w' := by
  have HS : Hid (∀ w' q, SOk q → Below w.heap.size w w' → Calls Tryz.prog 105 #[ptr tb, sv q] w' fun e w'' => e = .returned (.bool (hasM (L.map IT.m) q)) ∧ Below w'.heap.size w' w'') := fun w' q hq hb => has46 (h.below hb) hq
  have HLd : Hid (∀ w', Below w.heap.size w w' → Calls Tryz.prog 111 #[ptr tb, sv m, sv n, .func (.func 112) #[] #[]] w' fun e w'' => e = .returned (.bool (leadsM (L.map IT.m) anyI 301 m n)) ∧ Below w'.heap.size w' w'') := fun w' hb => leads47w (h.below hb) hm any48
  have HRoot : Hid (∀ w', Calls Tryz.prog 73 #[] w' fun e w'' => e = .returned (sv (0, 0)) ∧ Below w'.heap.size w' w'') := fun w' => root26 w'
  have HN0 : Hid (SOk n) := hn
  have HM0 : Hid (SOk m) := hm
  clear h hn hm
  have hR : pwithinM (L.map IT.m) n m = if m = n then true else if n = (0, 0) then hasM (L.map IT.m) m else hasM (L.map IT.m) n && leadsM (L.map IT.m) anyI 301 m n := rfl
  have HR : Hid (pwithinM (L.map IT.m) n m = if m = n then true else if n = (0, 0) then hasM (L.map IT.m) m else hasM (L.map IT.m) n && leadsM (L.map IT.m) anyI 301 m n) := hR
  clear hR
  generalize pwithinM (L.map IT.m) n m = R at HR ⊢
  generalize hld : leadsM (L.map IT.m) anyI 301 m n = ld at HR HLd
  clear hld
  obtain ⟨w1, hw1⟩ : ∃ w1, w1 = (w.alloc (.cells (sc n).toArray 35)).alloc (.cells (sc m).toArray 35) := ⟨_, rfl⟩
  obtain ⟨B0, hB0⟩ : ∃ B0, B0 = w.heap.size := ⟨_, rfl⟩
  obtain ⟨B1, hB1⟩ : ∃ B1, B1 = w.heap.size + 1 := ⟨_, rfl⟩
  obtain ⟨i1, i2, i3, i4, i5⟩ := two_stamps hw1 hB0 hB1
  have HB1 : Hid (Below w.heap.size w w1) := i1
  have HN : Hid (∀ w', Below w1.heap.size w1 w' → w'.rangeAt B0 0 (sc n)) := fun w' hb => (i2.below hb).range0
  have HM : Hid (∀ w', Below w1.heap.size w1 w' → w'.rangeAt B1 0 (sc m)) := fun w' hb => (i3.below hb).range0
  clear i1 i2 i3 i4 i5
  have HNa : Hid (w1.rangeAt B0 0 (sc n)) := HN.out _ (Below.refl _ _)
  have HMa : Hid (w1.rangeAt B1 0 (sc m)) := HM.out _ (Below.refl _ _)
  generalize hE : decide (m = n) = E
  have HE : Hid (decide (m = n) = E) := hE
  generalize hE2 : decide (n = (0, 0)) = E2
  have HE2 : Hid (decide (n = (0, 0)) = E2) := hE2
  clear hE hE2
  go_enter Tryz.func108, Tryz.ntmps108
  go_upto_region 1 with (first | (refine wpList_okw rfl (exec_box24 (n := n) (.tmp 1) rfl rfl) ?_) | (refine wpList_okw rfl (exec_box24 (n := m) (.tmp 2) rfl rfl) ?_))
  rw [show (Value.pointer (some { block := w.heap.size + 1, off := 0 })) = ptr B1 from by rw [hB1]]
  rw [← hw1]
  rw [← hB0]
  clear hw1 hB0 hB1
  cases E
  · go_upto_region 5 with (first
      | (refine wpList_okw rfl (exec_load24n (n := m) (.tmp 5) rfl rfl HMa.out) ?_)
      | (refine wpList_okw rfl (exec_load24n (n := n) (.tmp 4) rfl rfl HNa.out) ?_)
      | (refine wpList_okw rfl (exec_eql24 (a := m) (b := n) (.tmp 9) (.tmp 10) rfl rfl rfl) ?_; rw [HE.out]))
    have ne : Nonempty (WIn (fun w' => Below w1.heap.size w1 w')) := ⟨⟨w1, Below.refl _ _⟩⟩
    refine wp_region_tree (C := fun w' => ∃ z : WIn (fun w' => Below w1.heap.size w1 w'), w' = z.w) (.still 0 (.one 1 (.still 2 .done))) (by kernel_rfl) (by kernel_rfl) ⟨⟨w1.drew, below_drewn w1 1⟩, rfl⟩ ?_
    obtain ⟨w5, hw5⟩ : ∃ w5, w5 = w1.drew := ⟨_, rfl⟩
    have HB5 : Hid (Below w1.heap.size w1 w5) := by show Below _ _ _; rw [hw5]; exact below_drewn w1 1
    rw [← hw5]
    clear hw5
    refine tree_still rfl rfl ?_
    refine quiet_ok1 rfl (fun w' hw' => by obtain ⟨z, rfl⟩ := hw'; exact exec_load24n (n := n) (.tmp 4) rfl rfl (HN.out z.w z.ok)) ?_
    go_simp
    refine tree_one rfl rfl ?_
    go_simp
    refine (HRoot.out _).mono ?_
    rintro r w6 ⟨rfl, hb6⟩
    have HB6 : Hid (Below w1.heap.size w1 w6) := bnext HB5.out hb6
    clear hb6
    refine ⟨⟨⟨w6, HB6.out⟩, rfl⟩, ?_⟩
    go_simp
    refine tree_still rfl rfl ?_
    refine quiet_ok1 rfl (fun w' hw' => exec_eql24 (a := n) (b := (0, 0)) (.tmp 12) (.tmp 13) rfl rfl rfl) ?_
    rw [HE2.out]
    go_simp
    refine tree_done ?_
    clear ne
    have HBx : Hid (Below w.heap.size w w6) := bnext HB1.out HB6.out
    have HNb : Hid (w6.rangeAt B0 0 (sc n)) := HN.out _ HB6.out
    have HMb : Hid (w6.rangeAt B1 0 (sc m)) := HM.out _ HB6.out
    have HR1 : Hid (R = if n = (0, 0) then hasM (L.map IT.m) m else hasM (L.map IT.m) n && ld) := by show _ = _; rw [HR.out, if_neg (of_decide_eq_false HE.out)]
    clear HR
    cases E2
    · have HR2 : Hid (R = (hasM (L.map IT.m) n && ld)) := by show _ = _; rw [HR1.out, if_neg (of_decide_eq_false HE2.out)]
      clear HR1
      generalize hhs : hasM (L.map IT.m) n = hs at HR2
      have HHS : Hid (hasM (L.map IT.m) n = hs) := hhs
      clear hhs
      have tk1 : Hid True := trivial
      cases hs
      · go_wp2_with (first
          | (refine wpList_okw rfl (exec_load24n (n := n) (.tmp 4) rfl rfl HNb.out) ?_)
          | (clear tk1; go_at_call 105; go_must (refine (HS.out _ _ HN0.out HBx.out).mono ?_; rintro r w7 ⟨rfl, hb7⟩; have HB7 : Hid (Below w6.heap.size w6 w7) := hb7; clear hb7; rw [HHS.out])))
        go_ret
        exact ⟨by rw [HR2.out]; rfl, bnext HBx.out HB7.out⟩
      · go_wp2_with (first
          | (clear tk1; go_at_call 105; go_must (refine (HS.out _ _ HN0.out HBx.out).mono ?_; rintro r w7 ⟨rfl, hb7⟩; have HB7 : Hid (Below w6.heap.size w6 w7) := hb7; clear hb7; rw [HHS.out]; have HNc : Hid (w7.rangeAt B0 0 (sc n)) := HN.out _ (bnext HB6.out HB7.out); have HMc : Hid (w7.rangeAt B1 0 (sc m)) := HM.out _ (bnext HB6.out HB7.out)))
          | (refine wpList_okw rfl (exec_load24n (n := n) (.tmp 4) rfl rfl HNb.out) ?_)
          | (refine wpList_okw rfl (exec_load24n (n := m) (.tmp 5) rfl rfl HMc.out) ?_)
          | (refine wpList_okw rfl (exec_load24n (n := n) (.tmp 4) rfl rfl HNc.out) ?_)
          | (go_at_call 111; go_must (refine (HLd.out _ (bnext HBx.out HB7.out)).mono ?_; rintro r w8 ⟨rfl, hb8⟩; have HB8 : Hid (Below w7.heap.size w7 w8) := hb8; clear hb8)))
        go_ret
        exact ⟨by rw [HR2.out]; rfl, bnext HBx.out (bnext HB7.out HB8.out)⟩
    · have HR2 : Hid (R = hasM (L.map IT.m) m) := by show _ = _; rw [HR1.out, if_pos (of_decide_eq_true HE2.out)]
      clear HR1
      go_wp2_with (first
        | (refine wpList_okw rfl (exec_load24n (n := m) (.tmp 5) rfl rfl HMb.out) ?_)
        | (go_at_call 105; go_must (refine (HS.out _ _ HM0.out HBx.out).mono ?_; rintro r w7 ⟨rfl, hb7⟩; have HB7 : Hid (Below w6.heap.size w6 w7) := hb7; clear hb7)))
      go_ret
      exact ⟨by rw [HR2.out]; rfl, bnext HBx.out HB7.out⟩
  · have HR1 : Hid (R = true) := by show _ = _; rw [HR.out, if_pos (of_decide_eq_true HE.out)]
    clear HR
    go_wp2_with (first
      | (refine wpList_okw rfl (exec_load24n (n := m) (.tmp 5) rfl rfl HMa.out) ?_)
      | (refine wpList_okw rfl (exec_load24n (n := n) (.tmp 4) rfl rfl HNa.out) ?_)
      | (refine wpList_okw rfl (exec_eql24 (a := m) (b := n) (.tmp 9) (.tmp 10) rfl rfl rfl) ?_; rw [HE.out]))
    go_ret
    exact ⟨by rw [HR1.out]; rfl, HB1.out⟩
end
end

section
set_option linter.unusedVariables false
set_option linter.unusedSimpArgs false
set_option synthInstance.maxSize 20000
set_option maxHeartbeats 2000000
set_option maxRecDepth 20000
open Go.RowKit Go.Maps

/-- From w to w' only the tree's own two blocks were written; its map may be new. -/
structure Tw (tb : Nat) (mo : Option Nat) (w w' : World) (mo' : Option Nat) : Prop where
  os : w'.os = w.os
  tape : w'.tape = w.tape
  output : w'.output = w.output
  size : w.heap.size ≤ w'.heap.size
  block : ∀ k, k < w.heap.size → k ≠ tb → mo ≠ some k → w'.heap[k]? = w.heap[k]?
  new : mo' = mo ∨ ∃ mb, mo' = some mb ∧ w.heap.size ≤ mb
  kept : ∀ mb, mo = some mb → mo' = some mb
section
variable {tb : Nat} {mo mo1 mo2 : Option Nat} {w w1 w2 w' : World} {L : List IT}
theorem Tw.trans (h : Tw tb mo w w1 mo1) (h2 : Tw tb mo1 w1 w2 mo2) : Tw tb mo w w2 mo2 := by
  refine ⟨h2.os.trans h.os, h2.tape.trans h.tape, h2.output.trans h.output, Nat.le_trans h.size h2.size, fun k hk hn hm => ?_, ?_, fun mb e => h2.kept mb (h.kept mb e)⟩
  · refine (h2.block k (Nat.lt_of_lt_of_le hk h.size) hn fun e => ?_).trans (h.block k hk hn hm)
    rcases h.new with e1 | ⟨mb, e1, e2⟩
    · exact hm (e1 ▸ e)
    · rw [e1] at e; cases e; omega
  · rcases h2.new with e | ⟨mb, e, e2⟩
    · rw [e]; exact h.new
    · exact .inr ⟨mb, e, Nat.le_trans h.size e2⟩
theorem Tw.of_below (h : Below w.heap.size w w') : Tw tb mo w w' mo := ⟨h.os, h.tape, h.output, h.size, fun k hk _ _ => h.block k hk, .inl rfl, fun _ e => e⟩
/-- A new tree's blocks are new. -/
theorem Tw.below {w0 : World} (h : Tw tb mo w w' mo1) (h0 : Below w0.heap.size w0 w) (ht : w0.heap.size ≤ tb) (hm : ∀ k, mo = some k → w0.heap.size ≤ k) : Below w0.heap.size w0 w' ∧ ∀ k, mo1 = some k → w0.heap.size ≤ k := by
  refine ⟨⟨h.os.trans h0.os, h.tape.trans h0.tape, h.output.trans h0.output, Nat.le_trans h0.size h.size, fun k hk => ?_⟩, fun k hk => ?_⟩
  · refine (h.block k (Nat.lt_of_lt_of_le hk h0.size) (by omega) fun e => ?_).trans (h0.block k hk)
    have := hm k e
    omega
  · rcases h.new with e | ⟨mb, e, e2⟩
    · exact hm k (e ▸ hk)
    · rw [e] at hk; cases hk; exact Nat.le_trans h0.size e2
theorem MapT.nocell {b off : Nat} {v : Value} (h : MapT w b L) (hc : w.cell? ⟨b, off, none⟩ = some v) : False := by
  obtain ⟨m, D, ⟨es, clock, he, r⟩, hr⟩ := h
  simp [World.cell?, he] at hc
/-- A cell that holds no map is not the tree's. -/
theorem PTr.apart (h : PTr w tb mo L) {k off : Nat} {v : Value} (hc : w.cell? ⟨k, off, none⟩ = some v) (hv : ∀ m, v ≠ .map m) : k ≠ tb ∧ mo ≠ some k := by
  refine ⟨fun e => ?_, fun e => ?_⟩
  · subst e
    have hb := h.blk
    unfold Blk at hb
    simp [World.cell?, hb] at hc
    rcases Nat.eq_zero_or_pos off with e0 | e0
    · subst e0
      simp at hc
      exact hv _ hc.symm
    · rw [List.getElem?_eq_none (by simp; omega)] at hc
      cases hc
  · rcases h.mp with ⟨e1, _⟩ | ⟨mb, e1, hm⟩
    · rw [e1] at e; cases e
    · rw [e1] at e; cases e
      exact hm.nocell hc
theorem Tw.rd (h : Tw tb mo w w' mo1) (hP : PTr w tb mo L) {v : Value} {l : List Int} (hr : Rd w v l) : Rd w' v l := by
  have hr0 := hr
  refine hr.blocks fun hl k hk hlt => ?_
  obtain ⟨_, a, cap, rfl, h1, h2, h3, h4⟩ := hr0
  have hp : 0 < l.length := by cases l with
    | nil => exact absurd rfl hl
    | cons x l => simp
  obtain ⟨b, off, rfl, hc⟩ := h4 hp
  have e1 : b = k := by simpa [Value.ownBlock] using hk
  subst e1
  have := hP.apart (hc 0 hp) (fun m => by simp)
  exact h.block _ hlt this.1 this.2
theorem Tw.blk (h : Tw tb mo w w' mo1) (hP : PTr w tb mo L) {b : Nat} {e : TypeId} {v : Value} {vs : List Value} (hb : Blk w b e (v :: vs)) (hv : ∀ m, v ≠ .map m) : Blk w' b e (v :: vs) := by
  have := hP.apart (hb.cell 0 v rfl) hv
  exact hb.block (h.block _ hb.lt this.1 this.2)
theorem Tw.rowF {α : Type} {f : α → List Value} {l : List α} (h : Tw tb mo w w' mo1) (hP : PTr w tb mo L) (hf : ∀ x, ∃ v vs, f x = v :: vs ∧ ∀ m, v ≠ .map m) {v : Value} (hr : RowF f w v l) : RowF f w' v l := by
  have hr0 := hr
  obtain ⟨a, cap, rfl, h1, h2, h3, h4⟩ := hr0
  cases l with
  | nil => exact ⟨a, cap, rfl, h1, h2, h3, fun h => by simp at h⟩
  | cons x l =>
    refine hr.blocks fun j hj hlt => ?_
    obtain ⟨b, off, rfl, hc⟩ := h4 (by simp)
    have e1 : b = j := by simpa [Value.ownBlock] using hj
    subst e1
    obtain ⟨u, us, e2, e3⟩ := hf x
    have := hP.apart (hc 0 u (by simp [flat, e2])) e3
    exact h.block _ hlt this.1 this.2
theorem oc_head (x : OpT) : ∃ v vs, oc x = v :: vs ∧ ∀ m, v ≠ .map m := ⟨_, _, rfl, fun m => by simp⟩
theorem ic_head (x : IT) : ∃ v vs, ic x = v :: vs ∧ ∀ m, v ≠ .map m := ⟨_, _, rfl, fun m => by simp⟩
theorem Tw.itp (h : Tw tb mo w w' mo1) (hP : PTr w tb mo L) {b : Nat} {x : IT} (hb : Itp w b x) : Itp w' b x := Tw.blk (v := .int .i64 x.m.n.1) h hP hb (fun m => by simp)
theorem Tw.st (h : Tw tb mo w w' mo1) (hP : PTr w tb mo L) {b : Nat} {n : S} (hb : Blk w b 35 (sc n)) : Blk w' b 35 (sc n) := Tw.blk (v := .int .i64 n.1) h hP hb (fun m => by simp)
theorem rd_pastmap {mb : Nat} {v : Value} {l : List Int} (hr : Rd w v l) (hm : MapT w mb L) (hg : w.grownBy w' (some mb)) : Rd w' v l := by
  have hr0 := hr
  refine hr.blocks fun hl k hk hlt => ?_
  obtain ⟨_, a, cap, rfl, h1, h2, h3, h4⟩ := hr0
  have hp : 0 < l.length := by cases l with
    | nil => exact absurd rfl hl
    | cons x l => simp
  obtain ⟨b, off, rfl, hc⟩ := h4 hp
  have e1 : b = k := by simpa [Value.ownBlock] using hk
  subst e1
  exact hg.block _ hlt fun e => by cases e; exact hm.nocell (hc 0 hp)
theorem eql_map68 (w : World) (mo : Option Nat) : (binOp .eql 89 (.map mo) (.map none)).run Tryz.prog w = .ok (.bool mo.isNone) w := by
  have key : ∀ d, (Op.equalIn (d + 1) 89 (.map mo) (.map none)).run Tryz.prog w = .ok mo.isNone w := fun d => by
    cases mo <;> simp [Op.equalIn, run_underlying under68, Result.andThen]
  have e1 : (binOp .eql 89 (.map mo) (.map none)).run Tryz.prog w = ((Op.equalIn (9999 + 1) 89 (.map mo) (.map none)).run Tryz.prog w).andThen fun b w' => .ok (.bool b) w' := by
    simp only [binOp]
    simp [Op.equal, Op.maxDepth]
  rw [e1, key]
  rfl
theorem exec_store68 {o : Oper} {r : Operand → Value} {w w' : World} {mb : Nat} {n : S} {u : Value} (x y z : Operand) (ho : o.op = .mapUpdate 89 x y z) (hx : r x = .map (some mb)) (hy : r y = sv n) (hz : r z = u) (hrun : (Instr.mapUpdate 89 (.map (some mb)) (sv n) u).run Tryz.prog w = .ok () w') : (execOp r o).run Tryz.prog w = .ok .skip w' := by
  unfold execOp
  simp only [ho, hx, hy, hz, Sem.run_bind, hrun, Result.andThen_ok, Sem.run_pure]
end
section
variable {w : World} {tb : Nat} {mo : Option Nat} {L : List IT}
set_option maxHeartbeats 4000000 in
theorem put56 (h : PTr w tb mo L) (it : IT) (hit : Rd w it.v it.m.b) (hl : it.m.b.length ≤ 1000) (hn : SOk it.m.n) (hp : SOk it.m.p) (few : L.length ≤ 500) : Calls Tryz.prog 93 #[ptr tb, iv it] w fun e w' => e = .returned (.tuple #[]) ∧ ∃ mo' L', PTr w' tb mo' L' ∧ L'.map IT.m = putM (L.map IT.m) it.m ∧ Tw tb mo w w' mo' := by
  have HP : Hid (PTr w tb mo L) := h
  have HRI : Hid (Rd w it.v it.m.b) := hit
  have HOK : Hid (it.m.b.length ≤ 1000 ∧ SOk it.m.n ∧ SOk it.m.p ∧ L.length ≤ 500) := ⟨hl, hn, hp, few⟩
  have t0 := h.blk.cell 0 _ rfl
  have f0 := h.blk.frozen 0
  have hmp := h.mp
  clear hit hl hn hp few h
  obtain ⟨w1, hw1⟩ : ∃ w1, w1 = w.alloc (.cells (ic it).toArray 61) := ⟨_, rfl⟩
  obtain ⟨B0, hB0⟩ : ∃ B0, B0 = w.heap.size := ⟨_, rfl⟩
  have HB1 : Hid (Below w.heap.size w w1) := by show Below _ _ _; rw [hw1]; exact balloc (Below.refl _ _) _
  have HI1 : Hid (Itp w1 B0 it) := by show Itp _ _ _; rw [hw1, hB0]; exact itp_new w it
  have t1 := (HP.out.blk.below HB1.out).cell 0 _ rfl
  have f1 := (HP.out.blk.below HB1.out).frozen 0
  clear t0 f0
  have hmm := @run_makeMap Tryz.prog
  rcases hmp with hh | hh
  case' inl =>
    obtain ⟨rfl, rfl⟩ := hh
    have hq := fun w => eql_map68 w none
    go_enter Tryz.func93, Tryz.ntmps93
    go_upto_region 1 with (refine wpList_okw rfl (exec_box35 (q := it) (.tmp 1) rfl rfl) ?_)
    rw [← hw1, ← hB0]
    clear hw1 hB0
    obtain ⟨mb, hmb⟩ : ∃ mb, mb = w1.heap.size := ⟨_, rfl⟩
    have t2 := ((HP.out.blk.below HB1.out).alloc (.map #[] 0)).cell 0 _ rfl
    have f2 := ((HP.out.blk.below HB1.out).alloc (.map #[] 0)).frozen 0
    go_upto_region 3 with fail
    obtain ⟨w2, hw2⟩ : ∃ w2, w2 = (w1.alloc (.map #[] 0)).setCell ⟨tb, 0, none⟩ (.map (some mb)) := ⟨_, rfl⟩
    have hb1 := HP.out.blk.below HB1.out
    have hlt : tb < w1.heap.size := hb1.lt
    have HT2 : Hid (Blk w2 tb 91 [.map (some mb)]) := by show Blk _ _ _ _; rw [hw2]; exact Blk.set (hb1.alloc _) 0 _
    have hg2 : (w1.alloc (.map #[] 0)).grownBy w2 (some tb) := by rw [hw2]; exact grown_setCell _ _ _ _
    have HM2 : Hid (MapT w2 mb []) := by
      show MapT _ _ _
      rw [hmb]
      exact (mapT_new w1).block (hg2.block _ (by simp) (fun e => by cases e; omega))
    have HI2 : Hid (Itp w2 B0 it) := by
      have h1 : B0 ≠ tb := ((HP.out.below HB1.out).apart (Blk.cell HI1.out 0 _ rfl) (fun m => by simp)).1
      exact Blk.past (HI1.out.alloc _) hg2 h1
    have HR2 : Hid (Rd w2 it.v it.m.b) := by
      have := (HRI.out.below HB1.out).below (balloc (Below.refl _ w1) (.map #[] 0))
      exact rd_past this (hb1.alloc _) (fun n => by simp) hg2
    have HTw : Hid (Tw tb none w w2 (some mb)) := by
      have hb := HB1.out
      refine ⟨hg2.os.trans hb.os, hg2.tape.trans hb.tape, hg2.output.trans hb.output, ?_, fun k hk hn _ => ?_, .inr ⟨mb, rfl, by rw [hmb]; exact hb.size⟩, fun _ e => (by cases e)⟩
      · have := hg2.size
        have h3 := hb.size
        simp at this
        omega
      · have h3 := hb.size
        refine (hg2.block k (by simp; omega) (fun e => hn (by cases e; rfl))).trans ?_
        rw [(MapKept.heap_alloc w1 _).2 k (by omega)]
        exact hb.block k hk
    have HRL : Hid (∀ x ∈ ([] : List IT), Rd w2 x.v x.m.b) := fun x hx => (by cases hx)
    rw [← hmb, ← hw2]
    clear hmb hw2 hb1 hlt hg2 t1 f1 t2 f2 hq hmm
  case' inr =>
    obtain ⟨mb, rfl, hm⟩ := hh
    have hq := fun w => eql_map68 w (some mb)
    go_enter Tryz.func93, Tryz.ntmps93
    go_upto_region 1 with (refine wpList_okw rfl (exec_box35 (q := it) (.tmp 1) rfl rfl) ?_)
    rw [← hw1, ← hB0]
    clear hw1 hB0
    go_upto_region 3 with fail
    obtain ⟨w2, hw2⟩ : ∃ w2, w2 = w1 := ⟨_, rfl⟩
    have HT2 : Hid (Blk w2 tb 91 [.map (some mb)]) := by show Blk _ _ _ _; rw [hw2]; exact HP.out.blk.below HB1.out
    have HM2 : Hid (MapT w2 mb L) := by show MapT _ _ _; rw [hw2]; exact hm.below HB1.out
    have HI2 : Hid (Itp w2 B0 it) := by show Itp _ _ _; rw [hw2]; exact HI1.out
    have HR2 : Hid (Rd w2 it.v it.m.b) := by show Rd _ _ _; rw [hw2]; exact HRI.out.below HB1.out
    have HTw : Hid (Tw tb (some mb) w w2 (some mb)) := by show Tw _ _ _ _ _; rw [hw2]; exact Tw.of_below HB1.out
    have HRL : Hid (∀ x ∈ L, Rd w2 x.v x.m.b) := fun x hx => by rw [hw2]; exact (HP.out.rd x hx).below HB1.out
    rw [← hw2]
    clear hw2 t1 f1 hq hmm hm
  all_goals
    have hne : tb ≠ mb := fun e => HM2.out.nocell (e ▸ HT2.out.cell 0 _ rfl)
    have hne2 : B0 ≠ mb := fun e => HM2.out.nocell (e ▸ Blk.cell HI2.out 0 _ rfl)
    have HTz : Hid (∀ w', w2.grownBy w' (some mb) → Blk w' tb 91 [.map (some mb)]) := fun w' hg => HT2.out.past hg hne
    have HIz : Hid (∀ w', w2.grownBy w' (some mb) → Itp w' B0 it) := fun w' hg => Blk.past HI2.out hg hne2
    clear hne hne2
    have t2 := fun z : WIn (fun w' => w2.grownBy w' (some mb)) => (HTz.out z.w z.ok).cell 0 _ rfl
    have ne : Nonempty (WIn (fun w' => w2.grownBy w' (some mb))) := ⟨⟨w2, grown_refl _ _⟩⟩
    refine wp_region_ord (C := fun w' => ∃ z : WIn (fun w' => w2.grownBy w' (some mb)), w' = z.w) [(false, 0), (false, 1), (false, 2), (false, 3), (false, 4), (false, 5), (false, 6), (true, 7), (true, 8)] (by kernel_rfl) (by kernel_rfl) ⟨⟨w2.drew, grown_drew (grown_refl _ _)⟩, rfl⟩ ?_
    obtain ⟨w5, hw5⟩ : ∃ w5, w5 = w2.drew := ⟨_, rfl⟩
    have HB5 : Hid (Below w2.heap.size w2 w5) := by show Below _ _ _; rw [hw5]; exact below_drewn w2 1
    rw [← hw5]
    clear hw5
    iterate 5 (refine ord_still rfl rfl ?_; go_big_quiet_step (fail); refine wpQuiet_nil ?_)
    refine ord_still rfl rfl ?_
    refine quiet_ok1 rfl (fun w' hw' => by obtain ⟨z, rfl⟩ := hw'; exact exec_load24n (n := it.m.n) (.tmp 17) rfl rfl (HIz.out z.w z.ok).node) ?_
    go_simp
    refine ord_still rfl rfl ?_
    refine quiet_ok1 rfl (fun w' hw' => by obtain ⟨z, rfl⟩ := hw'; exact exec_load35 (q := it) (.tmp 3) rfl rfl (HIz.out z.w z.ok).range) ?_
    go_simp
    refine ord_mem rfl rfl ?_
    go_simp
    refine (copied43 it (HR2.out.below HB5.out) HOK.out.1).mono ?_
    rintro r w6 ⟨y, rfl, hcp, hb6⟩
    have HB6 : Hid (Below w2.heap.size w2 w6) := bnext HB5.out hb6
    have HCP : Hid (CopyT w5.heap.size w6 it y) := hcp
    have hok : SOk y.m.n := by rw [hcp.m]; exact HOK.out.2.1
    obtain ⟨w7, hrun, hmt, hg7⟩ := (HM2.out.below HB6.out).store HP.out.okL HP.out.srt (by have := HOK.out.2.2.2; omega) y hok
    rw [show sv y.m.n = sv it.m.n by rw [hcp.m]] at hrun
    have HRUN : Hid ((Instr.mapUpdate 89 (.map (some mb)) (sv it.m.n) (iv y)).run Tryz.prog w6 = .ok () w7) := hrun
    have HMT : Hid (MapT w7 mb (setT _ y true)) := hmt
    have HG7 : Hid (w6.grownBy w7 (some mb)) := hg7
    have HG6 : Hid (w2.grownBy w6 (some mb)) := World.grownBy.but (below_grown HB6.out) _
    have HGz : Hid (w2.grownBy w7 (some mb)) := grown_trans HG6.out hg7 (fun k hk => .inl hk)
    clear hcp hb6 hok hrun hmt hg7
    refine ⟨⟨⟨w6, HG6.out⟩, rfl⟩, ?_⟩
    go_simp
    refine ord_mem rfl rfl ?_
    refine wp_skip (exec_store68 (n := it.m.n) (u := iv y) (.tmp 16) (.tmp 18) (.tmp 20) rfl rfl rfl rfl HRUN.out) ?_
    refine ⟨⟨⟨w7, HGz.out⟩, rfl⟩, ?_⟩
    go_simp
    refine ord_end ?_
    clear ne t2
    go_wp2
    go_end0
    have hRd : ∀ v l, Rd w2 v l → Rd w7 v l := fun v l h => rd_pastmap (h.below HB6.out) (HM2.out.below HB6.out) HG7.out
    have hym : y.m = it.m := HCP.out.m
    refine ⟨rfl, some mb, setT _ y true, ⟨HTz.out _ HGz.out, .inr ⟨mb, rfl, HMT.out⟩, fun z hz => ?_, fun z hz => ?_, ?_, ?_⟩, ?_, HTw.out.trans ?_⟩
    · rcases setT_iff.1 hz with rfl | ⟨h1, _⟩
      · rw [hym]; exact ⟨HOK.out.2.1, HOK.out.2.2.1, HOK.out.1⟩
      · exact HP.out.ok z h1
    · rcases setT_iff.1 hz with rfl | ⟨h1, _⟩
      · exact rd_pastmap HCP.out.rd (HM2.out.below HB6.out) HG7.out
      · exact hRd _ _ (HRL.out z h1)
    · rw [setT_map]; exact setM_srt HP.out.srt _ _
    · have h1 := setT_len HP.out.srt y
      have h2 := HOK.out.2.2.2
      split at h1 <;> omega
    · rw [setT_map, hym]; rfl
    · exact ⟨HGz.out.os, HGz.out.tape, HGz.out.output, HGz.out.size, fun k hk _ hm => HGz.out.block k hk (fun e => hm e.symm), .inl rfl, fun _ e => e⟩
end
end
end Go.Proofs.YthnjbjlhfohpfaaGreat
