/-
  A nil tree: the law walked.
-/
import Derived.Test.YtjlpdoomchkfgaaLwU
import Derived.Test.YtjlpdoomchkfgaaTsK
import Derived.HandedShaped
namespace Go.Proofs.Ytjlpdoomchkfgaa
set_option linter.unusedVariables false
set_option linter.unusedSimpArgs false
set_option synthInstance.maxSize 20000
set_option maxHeartbeats 2000000
set_option maxRecDepth 20000
open Go.RowKit Go.Maps

theorem exec_load5 {o : Oper} {r : Operand → Value} {w : World} {b off : Nat} {u : Int} (x : Operand) (ho : o.op = .load 5 x) (hx : r x = .pointer (some ⟨b, off, none⟩)) (hc : w.cell? ⟨b, off, none⟩ = some (.int .u8 u)) : (execOp r o).run Try.prog w = .ok (.value (.int .u8 u)) w := by
  unfold execOp
  simp only [ho]
  go_simp
theorem exec_load33 {o : Oper} {r : Operand → Value} {w : World} {b off : Nat} {a : Option Addr} {n c : Nat} (x : Operand) (ho : o.op = .load 33 x) (hx : r x = .pointer (some ⟨b, off, none⟩)) (hc : w.cell? ⟨b, off, none⟩ = some (.slice a n c)) : (execOp r o).run Try.prog w = .ok (.value (.slice a n c)) w := by
  unfold execOp
  simp only [ho]
  go_simp
theorem exec_store5 {o : Oper} {r : Operand → Value} {w : World} {b off : Nat} {s u : Int} (x y : Operand) (ho : o.op = .store 5 x y) (hx : r x = .pointer (some ⟨b, off, none⟩)) (hy : r y = .int .u8 s) (hc : w.cell? ⟨b, off, none⟩ = some (.int .u8 u)) (hf : w.frozen? ⟨b, off, none⟩ = false) : (execOp r o).run Try.prog w = .ok .skip (w.setCell ⟨b, off, none⟩ (.int .u8 s)) := by
  unfold execOp
  simp only [ho]
  go_simp
/-- The contents of a row's items lie in blocks of bytes that are the call's own. -/
def Bys (B : Nat) (w : World) (v : Value) (X : List IT) : Prop := ∀ x ∈ X, 0 < x.vn → ∃ g, x.a = some ⟨g, 0, none⟩ ∧ B ≤ g ∧ (∀ k, v.ownBlock = some k → k ≠ g) ∧ (∃ u, w.cell? ⟨g, 0, none⟩ = some (.int .u8 u)) ∧ w.frozen? ⟨g, 0, none⟩ = false
theorem bys_of {B : Nat} {w : World} {v : Value} {X : List IT} (ho : OwnP B w v X) (hown : ∀ y ∈ X, Own B 5 w y.v y.m.b) : Bys B w v X := by
  intro x hx hv
  have h := hown x hx
  have hr := h.rd
  rcases h.2.2 with ⟨e, _⟩ | ⟨g, cap, cur, e, hB, hg, _⟩
  · unfold IT.v at e
    injection e with _ e2 _
    omega
  · unfold IT.v at e
    injection e with e1 e2 e3
    refine ⟨g, e1, hB, fun k hk hkg => ?_, ?_, by simp [World.frozen?, hg]⟩
    · obtain ⟨cs, z, hc⟩ := ho.cells hk
      rw [hkg, hg] at hc
      cases hc
    · obtain ⟨_, a, c, e', _, _, _, h4⟩ := hr
      unfold IT.v at e'
      injection e' with f1 f2 f3
      obtain ⟨b, off, ea, hc⟩ := h4 (by omega)
      rw [← f1, e1] at ea
      cases ea
      exact ⟨_, hc 0 (by omega)⟩
theorem Bys.put {B : Nat} {w : World} {v : Value} {X : List IT} (h : Bys B w v X) (g : Nat) (u : Int) : Bys B (w.drew.setCell ⟨g, 0, none⟩ (.int .u8 u)) v X := by
  intro x hx hv
  obtain ⟨g', h1, h2, h3, h4, h5⟩ := h x hx hv
  exact ⟨g', h1, h2, h3, someInt_setCell (w := w.drew) h4 _ _, by rw [World.frozen?_setCell]; exact h5⟩
theorem grown_put5 (w : World) (g : Nat) (u : Int) : w.grownBy (w.drew.setCell ⟨g, 0, none⟩ (.int .u8 u)) (some g) := grown_none (below_grown (below_drewn w 1)) (grown_setCells g [.int .u8 u] 0 w.drew)
set_option maxHeartbeats 16000000 in
theorem nils7 (v : Value) (l : List OpT) (q : OpT) (W : World) (rd : RowF oc W v l) (en : ∀ q ∈ l, QIn W q) (ok : QIn W q) : Calls Try.prog 7 #[v, ov q] W fun e W' => e = .returned (.bool true) ∧ Below W.heap.size W W' := by
  obtain ⟨a0, c0, rfl⟩ := rd.len
  have hcap := rd.caps
  have HRD : Hid (RowF oc W (.slice a0 l.length c0) l) := rd
  have HEN : Hid (∀ q ∈ l, Rd W q.v q.b) := fun q hq => (en q hq).rd
  have HRq : Hid (Rd W q.v q.b) := ok.rd
  have HAl : Hid (∀ w', Calls Try.prog 9 #[] w' fun e w'' => e = .returned (.bool true) ∧ Below w'.heap.size w' w'') := alive9
  obtain ⟨w1, hw1⟩ : ∃ w1, w1 = W.alloc (.cells (oc q).toArray 40) := ⟨_, rfl⟩
  obtain ⟨B0, hB0⟩ : ∃ B0, B0 = W.heap.size := ⟨_, rfl⟩
  obtain ⟨i1, i2⟩ := box_op hw1 hB0
  have HB1 : Hid (Below W.heap.size W w1) := i1
  have HQ1 : Hid (Opb w1 B0 q) := i2
  have HQl : Hid (w1.rangeAt B0 0 (oc q)) := Blk.range0 i2
  have HLt : Hid (Calls Try.prog 8 #[.slice a0 l.length c0, .int .i64 30] w1 fun e w' => e = .returned (.bool (lightB l 30)) ∧ w' = w1) := light8 (rd.below i1) (by omega)
  obtain ⟨w2, hw2⟩ : ∃ w2, w2 = w1.alloc (.cells (oc q).toArray 40) := ⟨_, rfl⟩
  obtain ⟨p2, hp2⟩ : ∃ p2, p2 = w1.heap.size := ⟨_, rfl⟩
  have HW2 : Hid (w2 = w1.alloc (.cells (oc q).toArray 40)) := hw2
  have HP2 : Hid (p2 = w1.heap.size) := hp2
  have HLq : Hid (Calls Try.prog 8 #[.slice (some ⟨p2, 0, none⟩) 1 1, .int .i64 1] w2 fun e w' => e = .returned (.bool (lightB [q] 1)) ∧ w' = w2) := by
    rw [hw2, hp2]
    exact light8 (rowF_one w1 q 40) (by simp)
  have HB2 : Hid (Below w1.heap.size w1 w2) := by show Below _ _ _; rw [hw2]; exact balloc (Below.refl _ _) _
  clear rd en ok hcap i1 i2 hw2 hp2
  go_enter Try.func7, Try.ntmps7
  go_upto_region 1 with (refine wpList_okw rfl (exec_box40 (q := q) (.tmp 1) rfl rfl) ?_)
  rw [← hw1, ← hB0]
  clear hw1 hB0
  cases hlb : lightB l 30
  · rw [hlb] at HLt
    clear hlb HLq
    go_wp2_with (first
      | (go_at_call 8; go_must (refine HLt.out.mono ?_; rintro e wx ⟨rfl, hw⟩; replace hw := hw.symm; subst hw))
      | (go_at_call 9; go_must (refine (HAl.out _).mono ?_; rintro e w3 ⟨rfl, hb3⟩; have HB3 : Hid (Below w1.heap.size w1 w3) := hb3; clear hb3)))
    go_ret
    exact ⟨rfl, bnext HB1.out HB3.out⟩
  rw [hlb] at HLt
  obtain ⟨hl30, hq⟩ := light_of hlb HEN.out
  have HL30 : Hid (l.length ≤ 30) := by show _ ≤ _; omega
  have HQl2 : Hid (∀ q ∈ l, Rd W q.v q.b ∧ q.b.length ≤ 1000) := hq
  clear hlb hl30 hq
  have tk1 : Hid True := trivial
  have tk2 : Hid True := trivial
  cases hlb : lightB [q] 1
  · rw [hlb] at HLq
    clear hlb
    go_wp2_with (first
      | (clear tk1; go_at_call 8; go_must (refine HLt.out.mono ?_; rintro e wx ⟨rfl, hw⟩; replace hw := hw.symm; subst hw))
      | (refine wpList_okw rfl (exec_load40 (q := q) (.tmp 3) rfl rfl HQl.out) ?_)
      | (clear tk2; refine wpList_okw rfl (exec_build1 (q := q) (.tmp 19) rfl rfl) ?_; rw [← HW2.out, ← HP2.out])
      | (go_at_call 8; go_must (refine HLq.out.mono ?_; rintro e wx ⟨rfl, hw⟩; replace hw := hw.symm; subst hw))
      | (go_at_call 9; go_must (refine (HAl.out _).mono ?_; rintro e w3 ⟨rfl, hb3⟩; have HB3 : Hid (Below w1.heap.size w1 w3) := bnext HB2.out hb3; clear hb3)))
    go_ret
    exact ⟨rfl, bnext HB1.out HB3.out⟩
  rw [hlb] at HLq
  have HBz : Hid (Below W.heap.size W w2) := bnext HB1.out HB2.out
  have HQ2 : Hid (w2.rangeAt B0 0 (oc q)) := Blk.range0 (HQ1.out.below HB2.out)
  have HNil : Hid (∀ w, Calls Try.prog 11 #[.pointer none, ov q] w fun e w' => e = .returned (.tuple #[iv zT, .bool false, .int .i64 23]) ∧ Below w.heap.size w w') := fun w => do11n q
  have HGn : Hid (∀ w, Calls Try.prog 19 #[.pointer none, sv q.n] w fun e w' => ∃ y, e = .returned (.tuple #[iv y, .bool false]) ∧ Below w.heap.size w w') := fun w => get19n q.n
  clear hlb
  go_upto_region 4 with (first
    | (clear tk1; go_at_call 8; go_must (refine HLt.out.mono ?_; rintro e wx ⟨rfl, hw⟩; replace hw := hw.symm; subst hw))
    | (refine wpList_okw rfl (exec_load40 (q := q) (.tmp 3) rfl rfl HQl.out) ?_)
    | (clear tk2; refine wpList_okw rfl (exec_build1 (q := q) (.tmp 19) rfl rfl) ?_; rw [← HW2.out, ← HP2.out])
    | (go_at_call 8; go_must (refine HLq.out.mono ?_; rintro e wx ⟨rfl, hw⟩; replace hw := hw.symm; subst hw)))
  clear HLt HLq HQl HW2 HP2
  have tk3 : Hid True := trivial
  have tk4 : Hid True := trivial
  go_upto_region 5 with (first
    | (refine wpList_okw rfl (exec_load40 (q := q) (.tmp 3) rfl rfl HQ2.out) ?_)
    | (go_at_call 11; go_must (refine (HNil.out _).mono ?_; rintro e w3 ⟨rfl, hb3⟩; have HB3 : Hid (Below W.heap.size W w3) := bnext HBz.out hb3; obtain ⟨w4, hw4⟩ : ∃ w4, w4 = w3.alloc (.cells (ic zT).toArray 35) := ⟨_, rfl⟩; obtain ⟨g, hg⟩ : ∃ g, g = w3.heap.size := ⟨_, rfl⟩; have HB23 : Hid (Below w2.heap.size w2 w3) := hb3; clear hb3; have HT4 : Hid (w4.there g 0 10) := (show _ from by rw [hw4, hg]; exact (itp_new w3 zT).there); have HW4 : Hid (w4 = w3.alloc (.cells (ic zT).toArray 35)) := hw4; have HGG : Hid (g = w3.heap.size) := hg; clear hw4 hg))
    | (clear tk3; refine wpList_okw rfl (exec_alloc35 rfl) ?_; rw [← HW4.out, ← HGG.out])
    | (clear tk4; refine wpList_skipw rfl (exec_store35 (q := zT) (.tmp 6) (.tmp 29) rfl rfl rfl HT4.out) ?_; obtain ⟨w5, hw5⟩ : ∃ w5, w5 = w4.setCells g 0 (ic zT) := ⟨_, rfl⟩; rw [← hw5]; obtain ⟨i1, i2, i3, i4⟩ := item_putp HB3.out HW4.out HGG.out hw5; have HB35 : Hid (Below w3.heap.size w3 w5) := i3; have HB5 : Hid (Below W.heap.size W w5) := i2; clear hw5 i1 i2 i3 i4 HT4 HW4 HGG))
  have HQ5 : Hid (Opb w5 B0 q) := HQ1.out.below (bnext HB2.out (bnext HB23.out HB35.out))
  have HQn5 : Hid (w5.rangeAt B0 3 (sc q.n)) := HQ5.out.node
  clear HQ2 HQ1 HNil
  have tk3 : Hid True := trivial
  have tk4 : Hid True := trivial
  go_upto_region 6 with (first
    | (refine wpList_okw rfl (exec_load24n (n := q.n) (.tmp 34) rfl rfl HQn5.out) ?_)
    | (go_at_call 19; go_must (refine (HGn.out _).mono ?_; rintro e w3' ⟨y, rfl, hb3⟩; have HB3' : Hid (Below W.heap.size W w3') := bnext HB5.out hb3; obtain ⟨w4, hw4⟩ : ∃ w4, w4 = w3'.alloc (.cells (ic zT).toArray 35) := ⟨_, rfl⟩; obtain ⟨g', hg⟩ : ∃ g', g' = w3'.heap.size := ⟨_, rfl⟩; have HB53 : Hid (Below w5.heap.size w5 w3') := hb3; clear hb3; have HT4 : Hid (w4.there g' 0 10) := (show _ from by rw [hw4, hg]; exact (itp_new w3' zT).there); have HW4 : Hid (w4 = w3'.alloc (.cells (ic zT).toArray 35)) := hw4; have HGG : Hid (g' = w3'.heap.size) := hg; clear hw4 hg))
    | (clear tk3; refine wpList_okw rfl (exec_alloc35 rfl) ?_; rw [← HW4.out, ← HGG.out])
    | (clear tk4; refine wpList_skipw rfl (exec_store35 (q := y) (.tmp 9) (.tmp 37) rfl rfl rfl HT4.out) ?_; obtain ⟨w6, hw6⟩ : ∃ w6, w6 = w4.setCells g' 0 (ic y) := ⟨_, rfl⟩; rw [← hw6]; obtain ⟨i1, i2, i3, i4⟩ := item_putp HB3'.out HW4.out HGG.out hw6; have HB36 : Hid (Below w3'.heap.size w3' w6) := i3; have HB6 : Hid (Below W.heap.size W w6) := i2; clear hw6 i1 i2 i3 i4 HT4 HW4 HGG))
  have HQn : Hid (∀ w', Below w6.heap.size w6 w' → w'.rangeAt B0 3 (sc q.n)) := fun w' hb => (HQ5.out.below (bnext HB53.out (bnext HB36.out hb))).node
  clear HQn5 HQ5 HGn HB53 HB36 HB35 HB23 HB3 HB3' HB5
  have ne : Nonempty (WIn (fun w' => Below w6.heap.size w6 w')) := ⟨⟨w6.drew, below_drewn w6 1⟩⟩
  refine wp_region_ord (C := fun w' => ∃ z : WIn (fun w' => Below w6.heap.size w6 w'), w' = z.w) [(false, 0), (false, 1), (false, 2), (false, 3), (false, 4), (false, 5), (false, 6), (false, 7), (false, 8), (false, 9), (false, 10), (true, 11), (false, 12), (false, 13), (false, 14), (false, 15), (false, 17), (false, 21), (false, 22), (false, 23), (true, 16), (true, 18), (false, 19), (false, 20), (true, 24), (false, 25), (false, 26), (false, 27), (false, 28), (false, 29), (false, 30), (false, 31), (false, 32), (false, 33), (false, 34), (true, 35), (false, 36), (false, 37), (false, 38), (false, 39), (false, 40), (true, 41), (false, 42)] (by kernel_rfl) (by kernel_rfl) ⟨⟨w6.drew, below_drewn w6 1⟩, rfl⟩ ?_
  iterate 10 (first | (refine ord_still rfl rfl ?_; go_big_quiet_step (fail); refine wpQuiet_nil ?_) | (refine ord_shut rfl rfl ?_; go_big_quiet_step (fail); refine wpQuiet_nil ?_))
  refine ord_still rfl rfl ?_
  refine quiet_ok1 rfl (fun w' hw' => exec_zero35 rfl) ?_
  go_simp
  refine ord_mem rfl rfl ?_
  go_simp
  refine (set30n zT true).mono ?_
  rintro r wa ⟨rfl, hb⟩
  have HBa : Hid (Below w6.heap.size w6 wa) := bnext (below_drewn w6 1) hb
  clear hb
  refine ⟨⟨⟨wa, HBa.out⟩, rfl⟩, ?_⟩
  go_simp
  iterate 7 (first | (refine ord_still rfl rfl ?_; go_big_quiet_step (fail); refine wpQuiet_nil ?_) | (refine ord_shut rfl rfl ?_; go_big_quiet_step (fail); refine wpQuiet_nil ?_))
  refine ord_still rfl rfl ?_
  refine quiet_ok1 rfl (fun w' hw' => by obtain ⟨z, rfl⟩ := hw'; exact exec_load24n (n := q.n) (.tmp 61) rfl rfl (HQn.out z.w z.ok)) ?_
  go_simp
  refine ord_mem rfl rfl ?_
  go_simp
  refine (len18n).mono ?_
  rintro r wb ⟨rfl, hw⟩
  have HBb : Hid (Below w6.heap.size w6 wb) := (show Below _ _ _ from by rw [hw]; exact HBa.out)
  clear hw
  refine ⟨⟨⟨wb, HBb.out⟩, rfl⟩, ?_⟩
  go_simp
  refine ord_mem rfl rfl ?_
  go_simp
  refine (all17n).mono ?_
  rintro r wc ⟨rfl, hw⟩
  have HBc : Hid (Below w6.heap.size w6 wc) := (show Below _ _ _ from by rw [hw]; exact HBb.out)
  clear hw
  refine ⟨⟨⟨wc, HBc.out⟩, rfl⟩, ?_⟩
  go_simp
  iterate 2 (first | (refine ord_still rfl rfl ?_; go_big_quiet_step (fail); refine wpQuiet_nil ?_) | (refine ord_shut rfl rfl ?_; go_big_quiet_step (fail); refine wpQuiet_nil ?_))
  refine ord_mem rfl rfl ?_
  go_simp
  refine (kids25n q.n).mono ?_
  rintro r wd ⟨rfl, hb⟩
  have HBd : Hid (Below w6.heap.size w6 wd) := bnext HBc.out hb
  clear hb
  refine ⟨⟨⟨wd, HBd.out⟩, rfl⟩, ?_⟩
  go_simp
  iterate 7 (first | (refine ord_still rfl rfl ?_; go_big_quiet_step (fail); refine wpQuiet_nil ?_) | (refine ord_shut rfl rfl ?_; go_big_quiet_step (fail); refine wpQuiet_nil ?_))
  refine ord_still rfl rfl ?_
  refine quiet_ok1 rfl (fun w' hw' => by obtain ⟨z, rfl⟩ := hw'; exact exec_load24n (n := q.n) (.tmp 70) rfl rfl (HQn.out z.w z.ok)) ?_
  go_simp
  iterate 1 (first | (refine ord_still rfl rfl ?_; go_big_quiet_step (fail); refine wpQuiet_nil ?_) | (refine ord_shut rfl rfl ?_; go_big_quiet_step (fail); refine wpQuiet_nil ?_))
  refine ord_still rfl rfl ?_
  refine quiet_ok1 rfl (fun w' hw' => by obtain ⟨z, rfl⟩ := hw'; exact exec_load24n (n := q.n) (.tmp 72) rfl rfl (HQn.out z.w z.ok)) ?_
  go_simp
  refine ord_mem rfl rfl ?_
  go_simp
  refine (within21n q.n q.n).mono ?_
  rintro r we ⟨rfl, hb⟩
  have HBe : Hid (Below w6.heap.size w6 we) := bnext HBd.out hb
  clear hb
  refine ⟨⟨⟨we, HBe.out⟩, rfl⟩, ?_⟩
  go_simp
  iterate 4 (first | (refine ord_still rfl rfl ?_; go_big_quiet_step (fail); refine wpQuiet_nil ?_) | (refine ord_shut rfl rfl ?_; go_big_quiet_step (fail); refine wpQuiet_nil ?_))
  refine ord_still rfl rfl ?_
  refine quiet_ok1 rfl (fun w' hw' => by obtain ⟨z, rfl⟩ := hw'; exact exec_load24n (n := q.n) (.tmp 78) rfl rfl (HQn.out z.w z.ok)) ?_
  go_simp
  refine ord_mem rfl rfl ?_
  go_simp
  refine (hangs23n q.n).mono ?_
  rintro r wf ⟨rfl, hb⟩
  have HBf : Hid (Below w6.heap.size w6 wf) := bnext HBe.out hb
  clear hb
  refine ⟨⟨⟨wf, HBf.out⟩, rfl⟩, ?_⟩
  go_simp
  iterate 1 (first | (refine ord_still rfl rfl ?_; go_big_quiet_step (fail); refine wpQuiet_nil ?_) | (refine ord_shut rfl rfl ?_; go_big_quiet_step (fail); refine wpQuiet_nil ?_))
  refine ord_end ?_
  clear ne
  have HBW : Hid (Below W.heap.size W wf) := bnext HB6.out HBf.out
  clear HQn HBa HBb HBc HBd HBe HBf HB6
  have HBu : Hid (∀ w', Below W.heap.size W w' → Calls Try.prog 27 #[.slice a0 l.length c0] w' (BuildAns w' l)) := fun w' hb => build27 (HRD.out.below hb) (by have := HL30.out; omega) fun q hq => ⟨(HQl2.out q hq).1.below hb, (HQl2.out q hq).2⟩
  go_upto_region 9 with (go_at_call 27; go_must (refine (HBu.out _ HBW.out).mono ?_; rintro e wg ⟨tb, mo, L, O, rfl, hP, hF, hM, hlen, ht, hmo, hbg⟩; have HBg : Hid (Below W.heap.size W wg) := bnext HBW.out hbg; have HPg : Hid (PTr wg tb mo L) := hP; have HM : Hid (L.map IT.m = buildM [] O) := hM; have HLo : Hid (O.length ≤ l.length) := hlen; have HFo : Hid (FirstOf O l) := hF; clear hbg hP hM hlen ht hmo hF))
  obtain ⟨M, hM⟩ : ∃ M, M = L.map IT.m := ⟨_, rfl⟩
  have HMM : Hid (L.map IT.m = M) := hM.symm
  have HM30 : Hid (M.length ≤ 30) := by
    have h1 := congrArg List.length HM.out
    have h2 := buildM_len O []
    rw [List.length_nil] at h2
    rw [← hM] at h1
    have := HLo.out
    have := HL30.out
    show _ ≤ _
    omega
  have HMO : Hid (M = buildM [] O) := hM.trans HM.out
  clear hM HM HLo
  go_upto_region 10 with (first
    | (go_at_call 27; go_must (refine (HBu.out _ HBg.out).mono ?_; rintro e wh ⟨tb2, mo2, L2, O2, rfl, hP, hF, hM, hlen, ht, hmo, hbh⟩; have HBh : Hid (Below wg.heap.size wg wh) := hbh; have HPh : Hid (PTr wh tb2 mo2 L2) := hP; have HM2 : Hid (L2.map IT.m = M) := (show _ = _ from by rw [hM, HMO.out, hF.uniq HFo.out (fun c => rfl)]); have HAl2 : Hid (Calls Try.prog 17 #[ptr tb2] wh fun e w' => ∃ v X, e = .returned v ∧ Was w' v X ∧ X.map IT.m = L2.map IT.m ∧ (∀ k, v.ownBlock = some k → wh.heap.size ≤ k ∧ k < w'.heap.size) ∧ Below wh.heap.size wh w') := all17w hP (by have := map_len HM2.out; have := HM30.out; omega); clear hbh hP hM hlen ht hmo hF))
    | (go_at_call 17; go_must (refine HAl2.out.mono ?_; rintro e wi ⟨vi, Xi, rfl, hwi, hmi, _, hbi⟩; have HBi : Hid (Below wg.heap.size wg wi) := bnext HBh.out hbi; have HIi : Hid (Calls Try.prog 16 #[vi] wi fun e w' => ∃ v', e = .returned v' ∧ Was w' v' Xi ∧ Below wi.heap.size wi w') := items16w hwi (by have := map_len (hmi.trans HM2.out); have := HM30.out; omega); have HMX : Hid (Xi.map IT.m = M) := hmi.trans HM2.out; clear hbi hmi hwi))
    | (go_at_call 16; go_must (refine HIi.out.mono ?_; rintro e wj ⟨vj, rfl, hwj, hbj⟩; have HBj : Hid (Below wg.heap.size wg wj) := bnext HBi.out hbj; have HWas : Hid (Was wj vj Xi) := hwj; clear hbj hwj)))
  have HPj : Hid (PTr wj tb mo L) := HPg.out.below HBj.out
  have HBWj : Hid (Below W.heap.size W wj) := bnext HBg.out HBj.out
  have HAll : Hid (Calls Try.prog 17 #[ptr tb] wj (ThoseAns wj L anyI)) := all17 HPj.out (by have := map_len HMM.out; have := HM30.out; omega)
  clear HBu HMO HFo HBj HBi HBh HPg HPh HM2 HAl2 HIi
  go_upto_region 11 with (go_at_call 17; go_must (refine HAll.out.mono ?_; rintro e wk ⟨vk, X, rfl, ho, hm, hown, hbk⟩; have HBk : Hid (Below wj.heap.size wj wk) := hbk; have HXk : Hid (RowF ic wk vk X) := ho.row; have HLk : Hid (X.map IT.m = M) := (show _ = _ from by rw [hm, filter_any, HMM.out]); have HYk : Hid (Bys wj.heap.size wk vk X) := bys_of ho hown; clear hbk ho hm hown))
  obtain ⟨a3, c3, rfl⟩ := HXk.out.len
  have hcap3 := HXk.out.caps
  have hXl : X.length ≤ 30 := by have := map_len HLk.out; have := HM30.out; omega
  obtain ⟨N, hN⟩ : ∃ N, N = X.length := ⟨_, rfl⟩
  have HN : Hid (N = X.length) := hN
  rw [← hN] at hcap3 hXl HXk HYk ⊢
  clear hN HAll HBg
  go_wp2
  go_loopw [14] (fun i wr => ∃ (k : Nat), i = .int .i64 (k : Int) ∧ k ≤ N ∧ Hid (Below wj.heap.size wj wr) ∧ Hid (RowF ic wr (.slice a3 N c3) X) ∧ Hid (Bys wj.heap.size wr (.slice a3 N c3) X)) (fun i _ => N - (intOf i).toNat)
  case atStart => exact ⟨0, rfl, Nat.zero_le _, HBk, HXk, HYk⟩
  case round =>
    obtain ⟨k, rfl, hk, HB, HX, HY⟩ := hrel
    clear HBk HXk HYk
    rename World => wr
    by_cases hlt : k < N
    · have hkI : (k : Int) < (N : Int) := by omega
      obtain ⟨x, hx⟩ : ∃ x, X[k]? = some x := ⟨_, List.getElem?_eq_getElem (by have := HN.out; omega)⟩
      have hmem : x ∈ X := List.mem_of_getElem? hx
      obtain ⟨b1, o1, rfl, hc⟩ := HX.out.at ic_len hx
      have c7 : wr.cell? ⟨b1, o1 + k * 10 + 7, none⟩ = some (.slice x.a x.vn x.vc) := hc 7 _ rfl
      by_cases hv : 0 < x.vn
      · have hvI : (0 : Int) < (x.vn : Int) := by omega
        obtain ⟨g, hga, hgB, hgv, ⟨u, hu⟩, hfz⟩ := HY.out x hmem hv
        have hne : b1 ≠ g := hgv b1 rfl
        rw [hga] at c7
        have C7 : Hid (∀ z : WIn (fun w' => wr.grownBy w' (some g)), z.w.cell? ⟨b1, o1 + k * 10 + 7, none⟩ = some (.slice (some ⟨g, 0, none⟩) x.vn x.vc)) := fun z => z.ok.cell c7 (fun e => hne (Option.some.inj e))
        have HC5 : Hid (wr.drew.cell? ⟨g, 0, none⟩ = some (.int .u8 u) ∧ wr.drew.frozen? ⟨g, 0, none⟩ = false) := ⟨hu, hfz⟩
        have HD : Hid (wr.grownBy wr.drew (some g)) := grown_none (below_grown (below_drewn wr 1)) (grown_refl _ _)
        have HG5 : Hid (∀ u', wr.grownBy (wr.drew.setCell ⟨g, 0, none⟩ (.int .u8 u')) (some g)) := fun u' => grown_put5 wr g u'
        have HEnd : Hid (∀ u', Hid (Below wj.heap.size wj (wr.drew.setCell ⟨g, 0, none⟩ (.int .u8 u'))) ∧ Hid (RowF ic (wr.drew.setCell ⟨g, 0, none⟩ (.int .u8 u')) (.slice (some ⟨b1, o1, none⟩) N c3) X) ∧ Hid (Bys wj.heap.size (wr.drew.setCell ⟨g, 0, none⟩ (.int .u8 u')) (.slice (some ⟨b1, o1, none⟩) N c3) X)) := fun u' =>
          ⟨bgrown HB.out hgB (grown_put5 wr g u'), HX.out.blocks fun j hj hlt => (grown_put5 wr g u').block j hlt (fun e => hgv j hj (Option.some.inj e)), HY.out.put g u'⟩
        clear hx hmem hc hga hgB hgv hu hfz hne
        go_upto_region 15 with fail
        clear c7
        have ne : Nonempty (WIn (fun w' => wr.grownBy w' (some g))) := ⟨⟨wr.drew, HD.out⟩⟩
        refine wp_region_ord (C := fun w' => ∃ z : WIn (fun w' => wr.grownBy w' (some g)), w' = z.w) [(false, 0), (false, 1), (false, 2), (false, 3), (false, 4), (false, 5), (false, 6), (false, 7), (false, 8), (false, 9), (false, 10), (true, 11), (false, 12), (false, 13), (true, 14)] (by kernel_rfl) (by kernel_rfl) ⟨⟨wr.drew, HD.out⟩, rfl⟩ ?_
        iterate 4 (refine ord_still rfl rfl ?_; go_big_quiet_step (fail); refine wpQuiet_nil ?_)
        refine ord_still rfl rfl ?_
        refine quiet_ok1 rfl (fun w' hw' => by obtain ⟨z, rfl⟩ := hw'; exact exec_load33 (a := some ⟨g, 0, none⟩) (n := x.vn) (c := x.vc) (.tmp 106) rfl rfl (C7.out z)) ?_
        go_simp
        iterate 4 (refine ord_still rfl rfl ?_; go_big_quiet_step (fail); refine wpQuiet_nil ?_)
        refine ord_still rfl rfl ?_
        refine quiet_ok1 rfl (fun w' hw' => by obtain ⟨z, rfl⟩ := hw'; exact exec_load33 (a := some ⟨g, 0, none⟩) (n := x.vn) (c := x.vc) (.tmp 111) rfl rfl (C7.out z)) ?_
        go_simp
        iterate 1 (refine ord_still rfl rfl ?_; go_big_quiet_step (fail); refine wpQuiet_nil ?_)
        refine ord_mem rfl rfl ?_
        refine wp_ok (exec_load5 (u := u) (.tmp 113) rfl rfl HC5.out.1) ?_
        refine ⟨⟨⟨wr.drew, HD.out⟩, rfl⟩, ?_⟩
        go_simp
        iterate 2 (refine ord_still rfl rfl ?_; go_big_quiet_step (fail); refine wpQuiet_nil ?_)
        refine ord_mem rfl rfl ?_
        refine wp_skip (exec_store5 (.tmp 116) (.tmp 115) rfl rfl rfl HC5.out.1 HC5.out.2) ?_
        refine ⟨⟨⟨_, HG5.out _⟩, rfl⟩, ?_⟩
        go_simp
        refine ord_end ?_
        clear ne
        clear C7 HC5 HD HG5
        go_wp2
        go_roundw
        case rel => exact ⟨k + 1, by go_num, by omega, HEnd.out _⟩
        case measure => simp [intOf]; omega
      · have hv0 : x.vn = 0 := by omega
        rw [hv0] at c7
        clear hx hmem hc
        go_wp2
        go_roundw
        case rel => exact ⟨k + 1, by go_num, by omega, HB, HX, HY⟩
        case measure => simp [intOf]; omega
    · have hkI : ¬ (k : Int) < (N : Int) := by omega
      have HPr : Hid (PTr wr tb mo L) := HPj.out.below HB.out
      have HWr : Hid (Was wr vj Xi) := HWas.out.below HB.out
      have HBWr : Hid (Below W.heap.size W wr) := bnext HBWj.out HB.out
      have HAll2 : Hid (Calls Try.prog 17 #[ptr tb] wr fun e w' => ∃ v X, e = .returned v ∧ Was w' v X ∧ X.map IT.m = L.map IT.m ∧ (∀ k, v.ownBlock = some k → wr.heap.size ≤ k ∧ k < w'.heap.size) ∧ Below wr.heap.size wr w') := all17w HPr.out (by have := map_len HMM.out; have := HM30.out; omega)
      go_wp2_with (first
        | (go_at_call 17; go_must (refine HAll2.out.mono ?_; rintro e wl ⟨vl, Y, rfl, hy, hym, _, hbl⟩; have HBl : Hid (Below wr.heap.size wr wl) := hbl; have HMY : Hid (Y.map IT.m = M) := hym.trans HMM.out; have HIa : Hid (Calls Try.prog 16 #[vl] wl fun e w' => ∃ v', e = .returned v' ∧ Was w' v' Y ∧ Below wl.heap.size wl w') := items16w hy (by have := map_len HMY.out; have := HM30.out; omega); clear hbl hy hym))
        | (go_at_call 16; go_must (refine HIa.out.mono ?_; rintro e wm ⟨vm, rfl, hwm, hbm⟩; have HBm : Hid (Below wr.heap.size wr wm) := bnext HBl.out hbm; have HSa : Hid (Calls Try.prog 15 #[vm, vj] wm fun e w' => e = .returned (.bool true) ∧ Below wm.heap.size wm w') := same15w hwm (HWr.out.below HBm.out) (HMY.out.trans HMX.out.symm); clear hwm hbm))
        | (go_at_call 15; go_must (refine HSa.out.mono ?_; rintro e wn ⟨rfl, hbn⟩; have HBn : Hid (Below wr.heap.size wr wn) := bnext HBm.out hbn; clear hbn))
        | (go_at_call 9; go_must (refine (HAl.out _).mono ?_; rintro e wo ⟨rfl, hbo⟩; have HBo : Hid (Below wr.heap.size wr wo) := bnext HBn.out hbo; clear hbo)))
      go_ret
      exact ⟨rfl, bnext HBWr.out HBo.out⟩
end Go.Proofs.Ytjlpdoomchkfgaa
